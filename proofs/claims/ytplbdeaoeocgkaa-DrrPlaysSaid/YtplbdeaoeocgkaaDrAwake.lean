/- Proved: the laws' example. No condition. -/
import Derived.Test.YtplbdeaoeocgkaaDrLaw
namespace Go.Proofs.Ytplbdeaoeocgkaa
open Go.ChangeShapes Go.WideShapes Go.ChangeAt Go.RowKit

def aW : List (Int × Int) := [(1, 1), (2, 2)]
def stA : Nat → List Qd
  | 0 => []
  | k + 1 => push aW (push aW (stA k) (1, 3)) (2, 3)
def aR1 : List Qd := [⟨1, 1, 0, true, [(1, 3), (1, 3)]⟩, ⟨2, 2, 0, false, [(2, 3), (2, 3), (2, 3)]⟩]
def aR2 : List Qd := [⟨2, 2, 3, true, [(2, 3), (2, 3)]⟩, ⟨1, 1, 0, false, [(1, 3), (1, 3)]⟩]
def aR3 : List Qd := [⟨2, 2, 0, true, [(2, 3)]⟩, ⟨1, 1, 0, false, [(1, 3), (1, 3)]⟩]
def aR4 : List Qd := [⟨1, 1, 0, true, [(1, 3)]⟩, ⟨2, 2, 0, false, [(2, 3)]⟩]
theorem a_go1 : goF 8 3 (stA 3) = some ((1, 3), aR1) := by rfl
theorem a_go2 : goF 8 3 aR1 = some ((2, 3), aR2) := by rfl
theorem a_go3 : goF 8 3 aR2 = some ((2, 3), aR3) := by rfl
theorem a_go4 : goF 8 3 aR3 = some ((1, 3), aR4) := by rfl
theorem i64s (x : Int) (h0 : -1000 ≤ x := by decide) (h1 : x ≤ 1000 := by decide) : I64 x := by unfold I64; omega
theorem stA_push (k : Nat) (h : k < 3) : pushE aW (stA k) (1, 3) = 0 ∧ pushE aW (push aW (stA k) (1, 3)) (2, 3) = 0 := by
  match k, h with
  | 0, _ => exact ⟨rfl, rfl⟩
  | 1, _ => exact ⟨rfl, rfl⟩
  | 2, _ => exact ⟨rfl, rfl⟩
section
variable {w wi : World} {b : Nat} {L : Ly} {Q M : Int} {W : List (Int × Int)} {R : List Qd}
theorem sb_next_as (h : SB w wi b L Q M W R) {n : Nat} {x : It} {S : List Qd} (hg : goF n Q R = some (x, S)) :
    Calls Try.prog 15 #[ptv b] wi fun e w' => e = .returned (.tuple #[.agg #[.int .i64 x.1, .int .i64 x.2], .bool true]) ∧ ∃ L', SB w w' b L' Q M W S ∧ Fr wi L w' L' := by
  refine (sb_next h ?_).mono ?_
  · intro e
    subst e
    cases n <;> cases hg
  · rintro e w' ⟨y, T, rfl, g, L', h1, h2⟩
    obtain ⟨rfl, rfl⟩ := goF_only hg g
    exact ⟨rfl, L', h1, h2⟩
theorem sb_add_as (h : SB w wi b L Q M W R) {id : Int} (hi : I64 id) (wt : Int) {e0 : Int} {W' : List (Int × Int)} (he : addE W id wt = e0) (hw : addW W id wt = W') :
    Calls Try.prog 13 #[ptv b, .int .i64 id, .int .i64 wt] wi fun e w' => e = .returned (.int .i64 e0) ∧ ∃ L', SB w w' b L' Q M W' R ∧ Fr wi L w' L' := by
  subst he; subst hw; exact sb_add h hi wt
theorem sb_push_as (h : SB w wi b L Q M W R) (x : It) (hi : I64 x.1) (hM : 1 ≤ M) (hx : x.2 ≤ M) {e0 : Int} {R' : List Qd} (he : pushE W R x = e0) (hw : push W R x = R') :
    Calls Try.prog 14 #[ptv b, .agg #[.int .i64 x.1, .int .i64 x.2]] wi fun e w' => e = .returned (.int .i64 e0) ∧ ∃ L', SB w w' b L' Q M W R' ∧ Fr wi L w' L' := by
  subst he; subst hw; exact sb_push h hi hM fun _ => hx
theorem sb_remove_as (h : SB w wi b L Q M W R) {id : Int} (hi : I64 id) {e0 : Int} {W' : List (Int × Int)} {R' : List Qd} (he : remE W id = e0) (hw : remW W id = W') (hr : remR R id = R') :
    Calls Try.prog 17 #[ptv b, .int .i64 id] wi fun e w' => e = .returned (.int .i64 e0) ∧ ∃ L', SB w w' b L' Q M W' R' ∧ Fr wi L w' L' := by
  subst he; subst hw; subst hr; exact sb_remove h hi
theorem sb_len_as (h : SB w wi b L Q M W R) {id : Int} (hi : I64 id) {n : Nat} (he : lenR R id = n) :
    Calls Try.prog 11 #[ptv b, .int .i64 id] wi fun e w' => e = .returned (.int .i64 (n : Nat)) ∧ wi = w' := by
  subst he; exact sb_len h hi
theorem sb_waiting_as (h : SB w wi b L Q M W R) {n : Nat} (he : waitR R = n) :
    Calls Try.prog 9 #[ptv b] wi fun e w' => e = .returned (.int .i64 (n : Nat)) ∧ wi = w' := by
  subst he; exact sb_waiting h
end
/-- blocks that are not the scheduler's. -/
def Bx (w : World) (L : Ly) (l : List (Nat × List Value)) : Prop := ∀ p ∈ l, At w p.1 35 p.2 ∧ L.col p.1 = -1
theorem Bx.nil (w : World) (L : Ly) : Bx w L [] := fun _ h => nomatch h
theorem Bx.step {w w' : World} {L L' : Ly} {l : List (Nat × List Value)} (h : Bx w L l) (k : Fr w L w' L') : Bx w' L' l := fun p hp => k.at_ (h p hp).1 (h p hp).2
theorem Bx.alloc {w : World} {L : Ly} {l : List (Nat × List Value)} (h : Bx w L l) (hc : L.col w.heap.size = -1) (xs : List Value) : Bx (w.alloc (.cells xs.toArray 35)) L ((w.heap.size, xs) :: l) := fun p hp => by
  rcases List.mem_cons.1 hp with rfl | hp
  · exact ⟨At.new w _ _, hc⟩
  · exact ⟨(h p hp).1.alloc _, (h p hp).2⟩

set_option maxRecDepth 100000 in
set_option maxHeartbeats 6400000 in
theorem dr_awake (w : World) :
    Calls Try.prog 6 #[] w fun e w' => e = .returned (.bool true) ∧ Below w.heap.size w w' := by
  have HN := Lib.hid (sb_new (Below.refl w.heap.size w) 3 65536 (by decide) (by decide))
  have HO := Lib.hid (fun W => dr_new_bad 0 W (by decide))
  go_enter Try.func6, Try.ntmps6
  go_wp2_with fail
  refine HN.out.mono ?_; rintro e w1 ⟨b, L1, rfl, r1, _, _⟩
  have R1 := Lib.hid r1
  clear r1 HN
  go_wp2_with fail
  refine (HO.out _).mono ?_; rintro e w2 ⟨rfl, rfl⟩
  go_wp2_with fail
  refine (sb_add_as R1.out (i64s 1) 1 (e0 := 0) (W' := [(1, 1)]) rfl rfl).mono ?_; rintro e w2 ⟨rfl, L2, r2, _⟩
  have R2 := Lib.hid r2
  clear r2 R1
  go_wp2_with fail
  refine (sb_add_as R2.out (i64s 2) 2 (e0 := 0) (W' := aW) rfl rfl).mono ?_; rintro e w3 ⟨rfl, L3, r3, _⟩
  have R3 := Lib.hid r3
  clear r3 R2
  go_wp2_with fail
  refine (sb_add_as R3.out (i64s 1) 1 (e0 := 8) (W' := aW) rfl rfl).mono ?_; rintro e w4 ⟨rfl, L4, r4, _⟩
  have R4 := Lib.hid r4
  clear r4 R3
  go_wp2_with fail
  go_loopw [8] (fun i wr => ∃ k : Nat, k ≤ 3 ∧ i = .int .i64 k ∧ ∃ L, SB w wr b L 3 65536 aW (stA k)) (fun i _ => 3 - (intOf i).toNat)
  case atStart => exact ⟨0, by omega, rfl, L4, R4.out⟩
  case round =>
    obtain ⟨k, hk, rfl, L5, r5⟩ := hrel
    have R5 := Lib.hid r5
    clear r5 R4
    by_cases hlt : k < 3
    · have hp := stA_push k hlt
      have hlt' : (k : Int) < 3 := by omega
      have HP0 := Lib.hid hp.1
      have HP1 := Lib.hid hp.2
      clear hp
      go_wp2_with fail
      refine (sb_push_as R5.out (1, 3) (i64s 1) (by decide) (by decide) HP0.out rfl).mono ?_; rintro e w6 ⟨rfl, L6, r6, _⟩
      have R6 := Lib.hid r6
      clear r6 R5
      go_wp2_with fail
      refine (sb_push_as R6.out (2, 3) (i64s 2) (by decide) (by decide) HP1.out rfl).mono ?_; rintro e w7 ⟨rfl, L7, r7, _⟩
      have R7 := Lib.hid r7
      clear r7 R6
      go_wp2_with fail
      go_roundw
      case rel => exact ⟨k + 1, by omega, by go_num, L7, R7.out⟩
      case measure => simp [intOf]; omega
    · obtain rfl : k = 3 := by omega
      go_wp2_with fail
      refine (sb_push_as R5.out (3, 3) (i64s 3) (by decide) (by decide) (e0 := 7) (R' := stA 3) rfl rfl).mono ?_; rintro e w6 ⟨rfl, L6, r6, _⟩
      have R6 := Lib.hid r6
      clear r6 R5
      go_wp2_with fail
      refine (sb_next_as R6.out a_go1).mono ?_; rintro e w7 ⟨rfl, L7, r7, _⟩
      have HX := Lib.hid ((Bx.nil w7 L7).alloc r7.new [.int .i64 1, .int .i64 3])
      have R7 := Lib.hid (r7.alloc (.cells #[.int .i64 1, .int .i64 3] 35))
      clear r7 R6
      go_wp2_with fail
      generalize hb1 : w7.heap.size = b1 at *
      generalize w7.alloc (.cells #[.int .i64 1, .int .i64 3] 35) = w8 at *
      clear hb1
      refine (sb_next_as R7.out a_go2).mono ?_; rintro e w9 ⟨rfl, L9, r9, f9⟩
      have HX2 := Lib.hid ((HX.out.step f9).alloc r9.new [.int .i64 2, .int .i64 3])
      have R9 := Lib.hid (r9.alloc (.cells #[.int .i64 2, .int .i64 3] 35))
      clear r9 R7 f9 HX
      go_wp2_with fail
      generalize hb2 : w9.heap.size = b2 at *
      generalize w9.alloc (.cells #[.int .i64 2, .int .i64 3] 35) = w10 at *
      clear hb2
      refine (sb_next_as R9.out a_go3).mono ?_; rintro e w11 ⟨rfl, L11, r11, f11⟩
      have HX3 := Lib.hid ((HX2.out.step f11).alloc r11.new [.int .i64 2, .int .i64 3])
      have R11 := Lib.hid (r11.alloc (.cells #[.int .i64 2, .int .i64 3] 35))
      clear r11 R9 f11 HX2
      go_wp2_with fail
      generalize hb3 : w11.heap.size = b3 at *
      generalize w11.alloc (.cells #[.int .i64 2, .int .i64 3] 35) = w12 at *
      clear hb3
      refine (sb_next_as R11.out a_go4).mono ?_; rintro e w13 ⟨rfl, L13, r13, f13⟩
      have HX4 := Lib.hid ((HX3.out.step f13).alloc r13.new [.int .i64 1, .int .i64 3])
      have R13 := Lib.hid (r13.alloc (.cells #[.int .i64 1, .int .i64 3] 35))
      clear r13 R11 f13 HX3
      go_wp2_with fail
      generalize hb4 : w13.heap.size = b4 at *
      generalize w13.alloc (.cells #[.int .i64 1, .int .i64 3] 35) = w14 at *
      clear hb4
      refine (sb_waiting_as R13.out (n := 2) rfl).mono ?_; rintro e w15 ⟨rfl, rfl⟩
      go_wp2_with fail
      refine (sb_remove_as R13.out (i64s 1) (e0 := 0) (W' := [(2, 2)]) (R' := [⟨2, 2, 0, false, [(2, 3)]⟩]) rfl rfl rfl).mono ?_; rintro e w15 ⟨rfl, L15, r15, f15⟩
      have HX5 := HX4.out.step f15
      have R15 := Lib.hid r15
      have c4 := (HX5 _ (.head _)).1.cell 0 rfl
      have c3 := (HX5 _ (.tail _ (.head _))).1.cell 0 rfl
      have c2 := (HX5 _ (.tail _ (.tail _ (.head _)))).1.cell 0 rfl
      have c1 := (HX5 _ (.tail _ (.tail _ (.tail _ (.head _))))).1.cell 0 rfl
      clear r15 f15 HX5 HX4 R13
      dsimp only at c1 c2 c3 c4
      go_wp2_with fail
      refine (sb_len_as R15.out (i64s 2) (n := 1) rfl).mono ?_; rintro e w16 ⟨rfl, rfl⟩
      go_wp2_with fail
      refine (sb_len_as R15.out (i64s 1) (n := 0) rfl).mono ?_; rintro e w16 ⟨rfl, rfl⟩
      go_wp2_with fail
      refine (sb_remove_as R15.out (i64s 1) (e0 := 7) (W' := [(2, 2)]) (R' := [⟨2, 2, 0, false, [(2, 3)]⟩]) rfl rfl rfl).mono ?_; rintro e w16 ⟨rfl, L16, r16, _⟩
      have R16 := Lib.hid r16
      clear r16 R15
      go_wp2_with fail
      go_ret
      exact ⟨rfl, R16.out.bel⟩
end Go.Proofs.Ytplbdeaoeocgkaa
