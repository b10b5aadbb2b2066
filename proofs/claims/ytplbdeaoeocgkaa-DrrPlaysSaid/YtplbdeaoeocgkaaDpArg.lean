/- Plain lemmas on deeds that came in as arguments. No condition beyond those that each lemma names. -/
import Derived.Test.YtplbdeaoeocgkaaDpDoN
import Derived.Deep.Slices
import Derived.Deep.Strs
import Derived.ChangeSame
import Derived.OpenShut
import Derived.WideShapes
namespace Go.Proofs.Ytplbdeaoeocgkaa
open Go.ChangeShapes Go.WideShapes Go.ChangeAt Go.RowKit

structure Dd where
  kd : Int
  id : Int
  z : Int
instance : Inhabited Dd := ⟨⟨0, 0, 0⟩⟩
def dd_ (l : List Dd) (j : Nat) : Dd := l.getD j ⟨0, 0, 0⟩
def Dds (w : World) (A : Option Addr) (n : Nat) (l : List Dd) : Prop :=
  l.length = n ∧ (∀ j, j < n → I64 (dd_ l j).id) ∧ (0 < n → ∃ ad, A = some ad ∧ ad.block < w.heap.size ∧ ∀ j, j < n → w.cell? (ad.add (j * 3)) = some (.int .i64 (dd_ l j).kd) ∧ w.cell? ⟨(ad.add (j * 3)).block, (ad.add (j * 3)).off + 1, none⟩ = some (.int .i64 (dd_ l j).id) ∧ w.cell? ⟨(ad.add (j * 3)).block, (ad.add (j * 3)).off + 2, none⟩ = some (.int .i64 (dd_ l j).z))
theorem Dds.nil (w : World) (A : Option Addr) : Dds w A 0 [] := ⟨rfl, fun _ h => absurd h (by omega), fun h => absurd h (by omega)⟩
theorem dd_add_block (a : Addr) (k : Nat) : (a.add k).block = a.block := by unfold Addr.add; split <;> rfl
theorem Dds.at_ {w : World} {A : Option Addr} {n : Nat} {l : List Dd} (h : Dds w A n l) {k : Nat} (hk : k < n) :
    ∃ ad, A = some ad ∧ I64 (dd_ l k).id ∧ ∀ w', Below w.heap.size w w' → w'.cell? (ad.add (k * 3)) = some (.int .i64 (dd_ l k).kd) ∧ w'.cell? ⟨(ad.add (k * 3)).block, (ad.add (k * 3)).off + 1, none⟩ = some (.int .i64 (dd_ l k).id) ∧ w'.cell? ⟨(ad.add (k * 3)).block, (ad.add (k * 3)).off + 2, none⟩ = some (.int .i64 (dd_ l k).z) := by
  obtain ⟨ad, e, hlt, hc⟩ := h.2.2 (by omega)
  refine ⟨ad, e, h.2.1 k hk, fun w' hb => ?_⟩
  obtain ⟨c0, c1, c2⟩ := hc k hk
  have hl : (ad.add (k * 3)).block < w.heap.size := by rw [dd_add_block]; omega
  exact ⟨(hb.cell hl).trans c0, (hb.cell (p := ⟨(ad.add (k * 3)).block, (ad.add (k * 3)).off + 1, none⟩) hl).trans c1, (hb.cell (p := ⟨(ad.add (k * 3)).block, (ad.add (k * 3)).off + 2, none⟩) hl).trans c2⟩
theorem dd3_in {l : List Value} (h : l.length = 3) : ∃ a b c, l = [a, b, c] := by
  match l, h with
  | [a, b, c], _ => exact ⟨a, b, c, rfl⟩
section
variable {H : Type} {enc : TypeId × Value → H} {w : World} {base : Nat} {held : Bool} {a : Option Addr} {len cap : Nat} {d : DataW H} {p : List MemPlace}
theorem dds_arg (h : DataW.Trod enc Try.prog w base (fun _ => true) held 22 (.slice a len cap) d p) : ∃ l, Dds w a len l := by
  obtain ⟨fuel, hf⟩ := h
  rcases Go.Deep.open_slice Try.underlying22 hf with ⟨hcs, _⟩ | ⟨x, l, c, m, n, D, Pl, hcs, _, hl, _, hm, _, hi⟩
  · simp [Value.cells] at hcs
    obtain ⟨rfl, rfl, rfl⟩ := hcs
    exact ⟨[], Dds.nil _ _⟩
  · simp [Value.cells] at hcs
    obtain ⟨rfl, rfl, rfl⟩ := hcs
    have hm' : m = cap := by simpa using hm
    have e38 : Try.prog.cellsOf 37 = 3 := by kernel_rfl
    have e2 : Try.prog.cellsOf 35 = 2 := by kernel_rfl
    have e3 : Try.prog.cellsOf 3 = 1 := by kernel_rfl
    have key : ∀ i, i < len → ∃ y : Dd, I64 y.id ∧ w.cell? (x.add (i * 3)) = some (.int .i64 y.kd) ∧ w.cell? ⟨(x.add (i * 3)).block, (x.add (i * 3)).off + 1, none⟩ = some (.int .i64 y.id) ∧ w.cell? ⟨(x.add (i * 3)).block, (x.add (i * 3)).off + 2, none⟩ = some (.int .i64 y.z) := fun i h => by
      obtain ⟨cs', hc, ht⟩ := hi i (by omega)
      rw [e38] at hc
      obtain ⟨_, hcl, hat⟩ := World.cells?_some hc
      obtain ⟨c0, c1, c2, rfl⟩ := dd3_in hcl
      obtain ⟨y0, y1, k, _, _, h0, h1⟩ := Go.ChangeShapes.trod_struct2 Try.underlying37 ht
      rw [e3] at h0
      rw [e2] at h1
      obtain ⟨y2, y3, k2, _, _, h2, h3⟩ := Go.ChangeShapes.trod_struct2 Try.underlying35 h1
      rw [e3] at h2 h3
      obtain ⟨z0, q0, _⟩ := DataW.trod_int Try.underlying3 h0
      obtain ⟨z1, q1, _, w1⟩ := DataW.trod_int Try.underlying3 h2
      obtain ⟨z2, q2, _⟩ := DataW.trod_int Try.underlying3 h3
      have q0' : c0 = .int .i64 z0 := by simpa using q0
      have q1' : c1 = .int .i64 z1 := by simpa using q1
      have q2' : c2 = .int .i64 z2 := by simpa using q2
      subst q0' q1' q2'
      refine ⟨⟨z0, z1, z2⟩, i64_of w1, ?_, ?_, ?_⟩
      · have h2 := hat 0 (by decide)
        rw [Addr.add_zero'] at h2
        rw [h2]; rfl
      · exact hat 1 (by decide)
      · exact hat 2 (by decide)
    obtain ⟨f, hf⟩ := Go.Deep.choose_lt key
    have hat : ∀ j, j < len → dd_ ((List.range len).map f) j = f j := fun j hj => by
      unfold dd_
      rw [List.getD_eq_getElem?_getD, List.getElem?_map, List.getElem?_range hj]; rfl
    refine ⟨(List.range len).map f, by simp, fun j hj => by rw [hat j hj]; exact (hf j hj).1, fun h0 => ?_⟩
    have h1 := World.block_lt_of_cell? w _ (hf 0 h0).2.1
    rw [dd_add_block] at h1
    exact ⟨x, rfl, h1, fun j hj => by rw [hat j hj]; exact (hf j hj).2⟩
end
end Go.Proofs.Ytplbdeaoeocgkaa
