/-
  NARROWER THAN 'FOR EVERY INPUT', by the rows' own cells (each row's printed sentence says how): JobsPlay: laid · JobsNone: laid.
  DERIVED. THE GIVEN ROWS OF THIS SEAT. 2 by the template 'for every input the law returns true; each argument reads behind the call as it read before'; 0 by the template 'total and deterministic' (their statements: YtfppmlnafalneaaDoorTotals.lean).
  GIVEN WITH THE SEED: the statements are not yours to turn. If you find one false, say at which input.
  Laid BY PROGRAM, IN A SANDBOX (cutbox-rows.mjs): the forced cells as the released guide's own fill.sh prints them over the translation f03bfb76196f631f… (all of the seat's roots in one cut). By AI agents, Wed Nov 11 2026. No macro, syntax, notation, axiom, sorry.
-/
import Derived.Test.YtfppmlnafalneaaDoorChecked
import GoSem.Claim
import GoSem.ClaimJoined
import GoSem.ClaimMapViews
import Derived.JoinedTies
import Derived.KernelRfl
namespace Go.Proofs.YtfppmlnafalneaaDoor
/- THE CELL 'sum', in the pinned program and in every row, IS THE sha256 OF THE DUMP (.gsa) THAT YtfppmlnafalneaaDoorProg.lean LOADS. Nothing in Lean hashes anything: it is a label: what it is worth is what the hold of that sum in a sandbox is worth. -/
noncomputable def Tryd.pinned : Pinned := { name := "ytfppmlnafalneaadoor", sum := "f03bfb76196f631f0cce94c24716a9cf36d57e0a1a9d379078399b3a2bcab35c", checked := Tryd.checked }
namespace Rows
def none {H : Type} : Left H := { results := [], args := [] }

/- WHAT THE LISTED PACKAGE-LEVEL VARIABLES READ AS WHEN THE CALL BEGINS. Each datum BY PROGRAM (the guide's laid-datum.mjs) off the statement by which the dump's own 'gosem.cut.vars' lays the variable. In a bare row this is a premise. The card (YtfppmlnafalneaaDoorCards.lean) ties it to the program's text. -/
def laid_lightship_jobs_errClosed {H : Type} : DataW H := .iface "*errors.errorString" (.ptr (.agg [.lit (.string [116, 104, 101, 32, 113, 117, 101, 117, 101, 32, 105, 115, 32, 99, 108, 111, 115, 101, 100])]))
def laid_lightship_jobs_errFull {H : Type} : DataW H := .iface "*errors.errorString" (.ptr (.agg [.lit (.string [97, 115, 32, 109, 97, 110, 121, 32, 106, 111, 98, 115, 32, 119, 97, 105, 116, 32, 97, 115, 32, 116, 104, 101, 114, 101, 32, 105, 115, 32, 114, 111, 111, 109, 32, 102, 111, 114])]))

/-- 'lightshiplaw19.JobsPlay': WHATEVER THE INPUT: true; the input reads as it did. -/
def jobsPlaySpec : ChangeSpec := { name := "jobsPlay", fn := fun _ => fun
  | [d1, d2] => { results := [.lit (.bool true)], args := [d1, d2] }
  | _ => none }
def jobsPlayRow : OpenClaim := { program := "ytfppmlnafalneaadoor", sum := "f03bfb76196f631f0cce94c24716a9cf36d57e0a1a9d379078399b3a2bcab35c", func := "lightship/lightshiplaw19.JobsPlay", spec := "jobsPlay", inPlace := ["(*internal/sync.Mutex).Lock", "internal/race.Disable", "sync/atomic.CompareAndSwapInt32", "internal/race.Enable", "internal/race.Acquire", "(*internal/sync.Mutex).lockSlow", "internal/sync.runtime_canSpin", "internal/sync.runtime_doSpin", "internal/sync.throw", "internal/sync.runtime_nanotime", "internal/sync.runtime_SemacquireMutex", "sync/atomic.AddInt32", "(*internal/sync.Mutex).Unlock", "internal/race.ReleaseMerge", "(*internal/sync.Mutex).unlockSlow", "internal/sync.fatal", "internal/sync.runtime_Semrelease", "internal/reflectlite.TypeOf"], unfollowed := true, recurses := true, named := ["lightship/jobs.errClosed", "lightship/jobs.errFull"], apart := false, laid := [("lightship/jobs.errClosed", laid_lightship_jobs_errClosed), ("lightship/jobs.errFull", laid_lightship_jobs_errFull)] }
def JobsPlaySaid : Prop := jobsPlayRow.holds Tryd.pinned (OpenSpec.ofChange jobsPlaySpec)

/-- ITS FALSE NEIGHBOUR: 'it returns false'. Refute it at one input. -/
def jobsPlayWrong : ChangeSpec := { name := "jobsPlay", fn := fun _ => fun
  | [d1, d2] => { results := [.lit (.bool false)], args := [d1, d2] }
  | _ => none }
def JobsPlayWrongFalsely : Prop := jobsPlayRow.holds Tryd.pinned (OpenSpec.ofChange jobsPlayWrong)

/-- 'lightshiplaw19.JobsNone': WHATEVER THE INPUT: true; the input reads as it did. -/
def jobsNoneSpec : ChangeSpec := { name := "jobsNone", fn := fun _ => fun
  | [d] => { results := [.lit (.bool true)], args := [d] }
  | _ => none }
def jobsNoneRow : OpenClaim := { program := "ytfppmlnafalneaadoor", sum := "f03bfb76196f631f0cce94c24716a9cf36d57e0a1a9d379078399b3a2bcab35c", func := "lightship/lightshiplaw19.JobsNone", spec := "jobsNone", inPlace := ["(*internal/sync.Mutex).Lock", "internal/race.Disable", "sync/atomic.CompareAndSwapInt32", "internal/race.Enable", "internal/race.Acquire", "(*internal/sync.Mutex).lockSlow", "internal/sync.runtime_canSpin", "internal/sync.runtime_doSpin", "internal/sync.throw", "internal/sync.runtime_nanotime", "internal/sync.runtime_SemacquireMutex", "sync/atomic.AddInt32", "(*internal/sync.Mutex).Unlock", "internal/race.ReleaseMerge", "(*internal/sync.Mutex).unlockSlow", "internal/sync.fatal", "internal/sync.runtime_Semrelease", "internal/reflectlite.TypeOf"], unfollowed := true, recurses := true, named := ["lightship/jobs.errClosed", "lightship/jobs.errFull"], apart := false, laid := [("lightship/jobs.errClosed", laid_lightship_jobs_errClosed), ("lightship/jobs.errFull", laid_lightship_jobs_errFull)] }
def JobsNoneSaid : Prop := jobsNoneRow.holds Tryd.pinned (OpenSpec.ofChange jobsNoneSpec)

/-- ITS FALSE NEIGHBOUR: 'it returns false'. Refute it at one input. -/
def jobsNoneWrong : ChangeSpec := { name := "jobsNone", fn := fun _ => fun
  | [d] => { results := [.lit (.bool false)], args := [d] }
  | _ => none }
def JobsNoneWrongFalsely : Prop := jobsNoneRow.holds Tryd.pinned (OpenSpec.ofChange jobsNoneWrong)

/- THE SECOND FORM. 'bulk': how many values and letters a reading holds, each counted each time it is reached (what is shared counts as often as it is met; a slice's spare places count too). A statement '..UptoSaid' is the law's where the arguments, and the package variables that the reading takes, are together of bulk at most 1048576: NARROWER than '..Said'. Prove '..Said' where nothing that the law and all that it calls make is longer than what came in: it says more and counts as full. Else prove '..UptoSaid'. A law counts once. -/
mutual
def uptoBulk {H : Type} : DataW H → Nat
  | .lit (.string bytes) => bytes.length + 1
  | .lit _ => 1
  | .nil => 1
  | .ptr d => uptoBulk d + 1
  | .slice elems spare => uptoBulkAll elems + uptoBulkAll spare + 1
  | .agg parts => uptoBulkAll parts + 1
  | .iface _ d => uptoBulk d + 1
  | .map entries => uptoBulkEntries entries + 1
  | .held _ => 1
def uptoBulkAll {H : Type} : List (DataW H) → Nat
  | [] => 0
  | d :: r => uptoBulk d + uptoBulkAll r
def uptoBulkEntries {H : Type} : List (Lit × DataW H) → Nat
  | [] => 0
  | x :: r => uptoBulkEntry x + uptoBulkEntries r
def uptoBulkEntry {H : Type} : Lit × DataW H → Nat
  | (.string bytes, d) => bytes.length + uptoBulk d + 1
  | (_, d) => uptoBulk d + 1
 end
def uptoSmall : (H : Type) → List (DataW H) → Bool := fun _ ds => decide (uptoBulkAll ds ≤ 1048576)
def OpenSpec.upto (s : _root_.Go.ChangeSpec) : _root_.Go.OpenSpec := { _root_.Go.OpenSpec.ofChange s with cond := some uptoSmall }

/-- 'lightshiplaw19.JobsPlay', WHERE WHAT IT READS IS OF BULK AT MOST 1048576: true; the input reads as it did. -/
def jobsPlayUptoRow : OpenClaim := { program := "ytfppmlnafalneaadoor", sum := "f03bfb76196f631f0cce94c24716a9cf36d57e0a1a9d379078399b3a2bcab35c", func := "lightship/lightshiplaw19.JobsPlay", spec := "jobsPlay", inPlace := ["(*internal/sync.Mutex).Lock", "internal/race.Disable", "sync/atomic.CompareAndSwapInt32", "internal/race.Enable", "internal/race.Acquire", "(*internal/sync.Mutex).lockSlow", "internal/sync.runtime_canSpin", "internal/sync.runtime_doSpin", "internal/sync.throw", "internal/sync.runtime_nanotime", "internal/sync.runtime_SemacquireMutex", "sync/atomic.AddInt32", "(*internal/sync.Mutex).Unlock", "internal/race.ReleaseMerge", "(*internal/sync.Mutex).unlockSlow", "internal/sync.fatal", "internal/sync.runtime_Semrelease", "internal/reflectlite.TypeOf"], unfollowed := true, recurses := true, named := ["lightship/jobs.errClosed", "lightship/jobs.errFull"], apart := false, laid := [("lightship/jobs.errClosed", laid_lightship_jobs_errClosed), ("lightship/jobs.errFull", laid_lightship_jobs_errFull)], narrowed := true }
def JobsPlayUptoSaid : Prop := jobsPlayUptoRow.holds Tryd.pinned (OpenSpec.upto jobsPlaySpec)

/-- 'lightshiplaw19.JobsNone', WHERE WHAT IT READS IS OF BULK AT MOST 1048576: true; the input reads as it did. -/
def jobsNoneUptoRow : OpenClaim := { program := "ytfppmlnafalneaadoor", sum := "f03bfb76196f631f0cce94c24716a9cf36d57e0a1a9d379078399b3a2bcab35c", func := "lightship/lightshiplaw19.JobsNone", spec := "jobsNone", inPlace := ["(*internal/sync.Mutex).Lock", "internal/race.Disable", "sync/atomic.CompareAndSwapInt32", "internal/race.Enable", "internal/race.Acquire", "(*internal/sync.Mutex).lockSlow", "internal/sync.runtime_canSpin", "internal/sync.runtime_doSpin", "internal/sync.throw", "internal/sync.runtime_nanotime", "internal/sync.runtime_SemacquireMutex", "sync/atomic.AddInt32", "(*internal/sync.Mutex).Unlock", "internal/race.ReleaseMerge", "(*internal/sync.Mutex).unlockSlow", "internal/sync.fatal", "internal/sync.runtime_Semrelease", "internal/reflectlite.TypeOf"], unfollowed := true, recurses := true, named := ["lightship/jobs.errClosed", "lightship/jobs.errFull"], apart := false, laid := [("lightship/jobs.errClosed", laid_lightship_jobs_errClosed), ("lightship/jobs.errFull", laid_lightship_jobs_errFull)], narrowed := true }
def JobsNoneUptoSaid : Prop := jobsNoneUptoRow.holds Tryd.pinned (OpenSpec.upto jobsNoneSpec)

end Rows
end Go.Proofs.YtfppmlnafalneaaDoor
