/- Proved: what one deed of the laws of package ring does. Conditions: those that the theorems name. -/
import Derived.Test.YtjeangfcnkhamaaRgPut2
import Derived.Deep.RegionHeld3
namespace Go.Proofs.Ytjeangfcnkhamaa
open Go.ChangeShapes Go.WideShapes Go.ChangeAt Go.RowKit

/-- a deed. -/
structure Dee where
  kind : Int
  n : Int
  body : ByteArray
def Dee.val (d : Dee) : Value := .agg #[.int .i64 d.kind, .int .i64 d.n, .string d.body]
/-- how many bytes a deed speaks of, and what waits behind it. -/
def Dee.many (d : Dee) (s : ByteArray) : Nat := (max 0 (min d.n (s.size : Int))).toNat
def Dee.does (d : Dee) (r : Nat) (s : ByteArray) : ByteArray :=
  if d.kind = 0 then s ++ d.body.extract 0 (min d.body.size (r - s.size)) else if d.kind = 1 then s.extract (d.many s) s.size else if d.kind = 2 then s else S0
/-- a text and a yes come back; block b is a ring of s' then. -/
def GivesDo (W : World) (b r : Nat) (g : Option Nat) (s' : ByteArray) (e : Ending) (w' : World) : Prop :=
  e = .returned (.tuple #[.string s', .bool true]) ∧ ∃ g', Rg w' b r g' s' ∧ Turns W w' b g ∧ Grows W g g'
theorem Turns.at_ {w w' : World} {x b : Nat} {g : Option Nat} {t : TypeId} {xs : List Value} (k : Turns w w' b g) (h : At w x t xs) (hb : x ≠ b) (hg : ∀ y, g = some y → y ≠ x) : At w' x t xs :=
  h.turns k hb (fun e => hg x e rfl)

theorem Rg.drew {w : World} {b r : Nat} {g : Option Nat} {s : ByteArray} (h : Rg w b r g s) : Rg w.drew b r g s := h.below (Below.refl _ _).drew
theorem turns_drew (w : World) (b : Nat) (g : Option Nat) : Turns w w.drew b g := turns_below (Below.refl _ _).drew b g

set_option maxRecDepth 100000 in
set_option maxHeartbeats 1600000 in
theorem do_put (b r : Nat) (g : Option Nat) (s : ByteArray) (kd n : Int) (t : ByteArray) (w : World) (h : Rg w b r g s) (hkd : kd = 0) :
    Calls Try.prog 8 #[.pointer (some ⟨b, 0, none⟩), .string s, .int .i64 (r : Nat), .agg #[.int .i64 kd, .int .i64 n, .string t]] w (GivesDo w b r g (s ++ t.extract 0 (min t.size (r - s.size)))) := by
  have D1 := At.new w 29 [.int .i64 kd, .int .i64 n, .string t]
  have hsr := h.size
  have hrr := h.room
  have hbx : w.heap.size ≠ b := by have := h.lt; omega
  have hgx : ∀ y, g = some y → y ≠ w.heap.size := fun y e => by have := h.row_lt y e; omega
  have B1 := (Below.refl w.heap.size w).alloc (Nat.le_refl _) (.cells [.int .i64 kd, .int .i64 n, .string t].toArray 29)
  have R1 := Lib.hid (h.below B1)
  have T1 := Lib.hid (turns_below B1 b g)
  have DD := Lib.hid D1
  have T2 : Hid (∀ w0 w6, At w0 w.heap.size 29 [.int .i64 kd, .int .i64 n, .string t] → Turns w0.drew w6 b g → At w6 w.heap.size 29 [.int .i64 kd, .int .i64 n, .string t]) := Lib.hid fun w0 w6 d q => Turns.at_ q (show At w0.drew w.heap.size _ _ from d) hbx hgx
  have x0 := D1.cell 0 rfl
  have x1 := D1.cell 1 rfl
  have x2 := D1.cell 2 rfl
  subst hkd
  obtain ⟨k, hk⟩ : ∃ k, k = min t.size (r - s.size) := ⟨_, rfl⟩
  have HPUT := Lib.hid (fun W (q : Rg W b r g s) => rg_put_any b r g s t W q)
  rw [← hk] at HPUT
  rw [← hk]
  have hmin : min (t.size : Int) ((r : Int) - (s.size : Int)) = (k : Int) := by omega
  have hk0 : (0 : Int) ≤ (k : Int) := Int.natCast_nonneg _
  have hsl : ∀ W, (Instr.slice 9 (Value.string t) none (some (Value.int .i64 (k : Int))) none).run Try.prog W = .ok (Value.string (t.extract 0 k)) W := fun W => by
    rw [run_slice_string_to_if W 9 t .i64 (k : Int) Try.underlying9, if_pos ⟨by omega, by omega⟩]; rfl
  have hX : (t.extract 0 k).size = k := by rw [rg_cut_size]; omega
  have hov : (s.size : Int) + ((t.extract 0 k).size : Int) ≤ 1048576 := by omega
  have hov3 : ¬ (s.size + (t.extract 0 k).size > 9223372036854775807) := by omega
  have hadd : ∀ W, (Op.stringOp .add s (t.extract 0 k)).run Try.prog W = .ok (.string (s ++ t.extract 0 k)) W := fun W => run_string_add_sum W _ _ (by omega)
  generalize t.extract 0 k = X at *
  clear hk hX
  obtain ⟨mn, hmn⟩ : ∃ mn : Int, max 0 (min n (s.size : Int)) = mn := ⟨_, rfl⟩
  have hs1 : (s.size : Int) ≤ 1048576 := by omega
  have hs2 : (0 : Int) ≤ (r : Int) - (s.size : Int) := by omega
  have hs3 : (r : Int) ≤ 1048576 := by omega
  clear h D1 hsr hrr hbx hgx B1
  go_enter Try.func8, Try.ntmps8
  go_wp2_with fail
  generalize w.alloc (.cells #[.int .i64 0, .int .i64 n, .string t] 29) = w1 at *
  have R1d := Lib.hid R1.out.drew
  have T1d := Lib.hid (T1.out.trans (Grows.refl _ _) (turns_drew w1 b g))
  have x2d : w1.drew.cell? ⟨w.heap.size, 2, none⟩ = some (.string t) := x2
  go_region_held3 (fun w' => w'.cell? ⟨w.heap.size, 2, none⟩ = some (.string t))
    (first | go_keep | exact KP.out.cell 2 rfl)
    (((with_reducible refine (HPUT.out _ R1d.out).mono ?_); rintro e wq ⟨rfl, g', rq, tq, gq⟩; have RQ := Lib.hid rq; have TQ := Lib.hid (T1d.out.trans (Grows.refl _ _) tq); have GQ : Hid (Grows w g g') := Lib.hid ((Grows.refl w g).trans T1d.out.size gq); have KP := Lib.hid (T2.out _ _ DD.out tq); clear rq tq gq))
  go_wp2_with fail
  go_ret2
  exact ⟨rfl, g', RQ.out, TQ.out, GQ.out⟩

set_option maxRecDepth 100000 in
set_option maxHeartbeats 1600000 in
theorem do_take (b r : Nat) (g : Option Nat) (s : ByteArray) (kd n : Int) (t : ByteArray) (w : World) (h : Rg w b r g s) (hkd : kd = 1) :
    Calls Try.prog 8 #[.pointer (some ⟨b, 0, none⟩), .string s, .int .i64 (r : Nat), .agg #[.int .i64 kd, .int .i64 n, .string t]] w (GivesDo w b r g (s.extract (max 0 (min n (s.size : Int))).toNat s.size)) := by
  have D1 := At.new w 29 [.int .i64 kd, .int .i64 n, .string t]
  have hsr := h.size
  have hrr := h.room
  have hbx : w.heap.size ≠ b := by have := h.lt; omega
  have hgx : ∀ y, g = some y → y ≠ w.heap.size := fun y e => by have := h.row_lt y e; omega
  have B1 := (Below.refl w.heap.size w).alloc (Nat.le_refl _) (.cells [.int .i64 kd, .int .i64 n, .string t].toArray 29)
  have R1 := Lib.hid (h.below B1)
  have T1 := Lib.hid (turns_below B1 b g)
  have DD := Lib.hid D1
  have T2 : Hid (∀ w0 w6, At w0 w.heap.size 29 [.int .i64 kd, .int .i64 n, .string t] → Turns w0.drew w6 b g → At w6 w.heap.size 29 [.int .i64 kd, .int .i64 n, .string t]) := Lib.hid fun w0 w6 d q => Turns.at_ q (show At w0.drew w.heap.size _ _ from d) hbx hgx
  have x0 := D1.cell 0 rfl
  have x1 := D1.cell 1 rfl
  have x2 := D1.cell 2 rfl
  subst hkd
  obtain ⟨k, hk⟩ : ∃ k : Nat, max 0 (min n (s.size : Int)) = (k : Int) := ⟨(max 0 (min n (s.size : Int))).toNat, by omega⟩
  have hk2 : (max 0 (min n (s.size : Int))).toNat = k := by omega
  have HPUT := Lib.hid (fun W (q : Rg W b r g s) => rg_take_any b r n g s W q)
  rw [hk2] at HPUT
  have hk0 : (0 : Int) ≤ (k : Int) := Int.natCast_nonneg _
  have hk1 : (k : Int) ≤ (s.size : Int) := by omega
  have hsl : ∀ W, (Instr.slice 9 (Value.string s) none (some (Value.int .i64 (k : Int))) none).run Try.prog W = .ok (Value.string (s.extract 0 k)) W := fun W => by
    rw [run_slice_string_to_if W 9 s .i64 (k : Int) Try.underlying9, if_pos ⟨by omega, by omega⟩]; rfl
  rw [hk2]
  have hsl2 : ∀ W, (Instr.slice 9 (Value.string s) (some (Value.int .i64 (k : Int))) none none).run Try.prog W = .ok (Value.string (s.extract k s.size)) W := fun W => by
    rw [run_slice_string_from_if W 9 s .i64 (k : Int) Try.underlying9, if_pos ⟨by omega, by omega⟩]; rfl
  generalize s.extract 0 k = X at *
  generalize s.extract k s.size = Y at *
  clear hk2
  have hs1 : (s.size : Int) ≤ 1048576 := by omega
  have hs2 : (0 : Int) ≤ (r : Int) - (s.size : Int) := by omega
  have hs3 : (r : Int) ≤ 1048576 := by omega
  clear h D1 hsr hrr hbx hgx B1
  go_enter Try.func8, Try.ntmps8
  go_wp2_with fail
  generalize w.alloc (.cells #[.int .i64 1, .int .i64 n, .string t] 29) = w1 at *
  have R1d := Lib.hid R1.out.drew
  have T1d := Lib.hid (T1.out.trans (Grows.refl _ _) (turns_drew w1 b g))
  have x1d : w1.drew.cell? ⟨w.heap.size, 1, none⟩ = some (.int .i64 n) := x1
  go_region_held3 (fun w' => w'.cell? ⟨w.heap.size, 1, none⟩ = some (.int .i64 n))
    (first | go_keep | exact KP.out.cell 1 rfl)
    (((with_reducible refine (HPUT.out _ R1d.out).mono ?_); rintro e wq ⟨rfl, g', rq, tq, gq⟩; have RQ := Lib.hid rq; have TQ := Lib.hid (T1d.out.trans (Grows.refl _ _) tq); have GQ : Hid (Grows w g g') := Lib.hid ((Grows.refl w g).trans T1d.out.size gq); have KP := Lib.hid (T2.out _ _ DD.out tq); clear rq tq gq))
  go_wp2_with fail
  go_ret2
  exact ⟨rfl, g', RQ.out, TQ.out, GQ.out⟩

set_option maxRecDepth 100000 in
set_option maxHeartbeats 1600000 in
theorem do_peek (b r : Nat) (g : Option Nat) (s : ByteArray) (kd n : Int) (t : ByteArray) (w : World) (h : Rg w b r g s) (hkd : kd = 2) :
    Calls Try.prog 8 #[.pointer (some ⟨b, 0, none⟩), .string s, .int .i64 (r : Nat), .agg #[.int .i64 kd, .int .i64 n, .string t]] w (GivesDo w b r g (s)) := by
  have D1 := At.new w 29 [.int .i64 kd, .int .i64 n, .string t]
  have hsr := h.size
  have hrr := h.room
  have hbx : w.heap.size ≠ b := by have := h.lt; omega
  have hgx : ∀ y, g = some y → y ≠ w.heap.size := fun y e => by have := h.row_lt y e; omega
  have B1 := (Below.refl w.heap.size w).alloc (Nat.le_refl _) (.cells [.int .i64 kd, .int .i64 n, .string t].toArray 29)
  have R1 := Lib.hid (h.below B1)
  have T1 := Lib.hid (turns_below B1 b g)
  have DD := Lib.hid D1
  have T2 : Hid (∀ w0 w6, At w0 w.heap.size 29 [.int .i64 kd, .int .i64 n, .string t] → Turns w0.drew w6 b g → At w6 w.heap.size 29 [.int .i64 kd, .int .i64 n, .string t]) := Lib.hid fun w0 w6 d q => Turns.at_ q (show At w0.drew w.heap.size _ _ from d) hbx hgx
  have x0 := D1.cell 0 rfl
  have x1 := D1.cell 1 rfl
  have x2 := D1.cell 2 rfl
  subst hkd
  obtain ⟨k, hk⟩ : ∃ k : Nat, max 0 (min n (s.size : Int)) = (k : Int) := ⟨(max 0 (min n (s.size : Int))).toNat, by omega⟩
  have hk2 : (max 0 (min n (s.size : Int))).toNat = k := by omega
  have HPUT := Lib.hid (fun W (q : Rg W b r g s) => rg_peek_any b r n g s W q)
  rw [hk2] at HPUT
  have hk0 : (0 : Int) ≤ (k : Int) := Int.natCast_nonneg _
  have hk1 : (k : Int) ≤ (s.size : Int) := by omega
  have hsl : ∀ W, (Instr.slice 9 (Value.string s) none (some (Value.int .i64 (k : Int))) none).run Try.prog W = .ok (Value.string (s.extract 0 k)) W := fun W => by
    rw [run_slice_string_to_if W 9 s .i64 (k : Int) Try.underlying9, if_pos ⟨by omega, by omega⟩]; rfl
  generalize s.extract 0 k = X at *
  clear hk2
  have hs1 : (s.size : Int) ≤ 1048576 := by omega
  have hs2 : (0 : Int) ≤ (r : Int) - (s.size : Int) := by omega
  have hs3 : (r : Int) ≤ 1048576 := by omega
  clear h D1 hsr hrr hbx hgx B1
  go_enter Try.func8, Try.ntmps8
  go_wp2_with fail
  generalize w.alloc (.cells #[.int .i64 2, .int .i64 n, .string t] 29) = w1 at *
  have R1d := Lib.hid R1.out.drew
  have T1d := Lib.hid (T1.out.trans (Grows.refl _ _) (turns_drew w1 b g))
  have x1d : w1.drew.cell? ⟨w.heap.size, 1, none⟩ = some (.int .i64 n) := x1
  go_region_held3 (fun w' => w'.cell? ⟨w.heap.size, 1, none⟩ = some (.int .i64 n))
    (first | go_keep | exact KP.out.cell 1 rfl)
    (((with_reducible refine (HPUT.out _ R1d.out).mono ?_); rintro e wq ⟨rfl, gq⟩; have tq := turns_below gq b g; have RQ := Lib.hid (R1d.out.below gq); have TQ := Lib.hid (T1d.out.trans (Grows.refl _ _) tq); have KP := Lib.hid (T2.out _ _ DD.out tq); clear tq gq))
  go_wp2_with fail
  go_ret2
  exact ⟨rfl, g, RQ.out, TQ.out, Grows.refl _ _⟩

set_option maxRecDepth 100000 in
set_option maxHeartbeats 1600000 in
theorem do_clear (b r : Nat) (g : Option Nat) (s : ByteArray) (kd n : Int) (t : ByteArray) (w : World) (h : Rg w b r g s) (hkd : kd ≠ 0 ∧ kd ≠ 1 ∧ kd ≠ 2) :
    Calls Try.prog 8 #[.pointer (some ⟨b, 0, none⟩), .string s, .int .i64 (r : Nat), .agg #[.int .i64 kd, .int .i64 n, .string t]] w (GivesDo w b r g (S0)) := by
  have D1 := At.new w 29 [.int .i64 kd, .int .i64 n, .string t]
  have hsr := h.size
  have hrr := h.room
  have hbx : w.heap.size ≠ b := by have := h.lt; omega
  have hgx : ∀ y, g = some y → y ≠ w.heap.size := fun y e => by have := h.row_lt y e; omega
  have B1 := (Below.refl w.heap.size w).alloc (Nat.le_refl _) (.cells [.int .i64 kd, .int .i64 n, .string t].toArray 29)
  have R1 := Lib.hid (h.below B1)
  have T1 := Lib.hid (turns_below B1 b g)
  have DD := Lib.hid D1
  have T2 : Hid (∀ w0 w6, At w0 w.heap.size 29 [.int .i64 kd, .int .i64 n, .string t] → Turns w0.drew w6 b g → At w6 w.heap.size 29 [.int .i64 kd, .int .i64 n, .string t]) := Lib.hid fun w0 w6 d q => Turns.at_ q (show At w0.drew w.heap.size _ _ from d) hbx hgx
  have x0 := D1.cell 0 rfl
  have x1 := D1.cell 1 rfl
  have x2 := D1.cell 2 rfl
  have f0 : (kd == 0) = false := by simpa using hkd.1
  have f1 : (kd == 1) = false := by simpa using hkd.2.1
  have f2 : (kd == 2) = false := by simpa using hkd.2.2
  clear hkd
  have HPUT := Lib.hid (fun W (q : Rg W b r g s) => rg_clear_any b r g s W q)
  obtain ⟨mn, hmn⟩ : ∃ mn : Int, max 0 (min n (s.size : Int)) = mn := ⟨_, rfl⟩
  have hs1 : (s.size : Int) ≤ 1048576 := by omega
  have hs2 : (0 : Int) ≤ (r : Int) - (s.size : Int) := by omega
  have hs3 : (r : Int) ≤ 1048576 := by omega
  clear h D1 hsr hrr hbx hgx B1
  go_enter Try.func8, Try.ntmps8
  go_wp2_with fail
  refine (HPUT.out _ R1.out).mono ?_; rintro e wq ⟨rfl, g', rq, tq, gq⟩
  have RQ := Lib.hid rq
  have TQ := Lib.hid (T1.out.trans (Grows.refl _ _) tq)
  have GQ : Hid (Grows w g g') := Lib.hid ((Grows.refl w g).trans T1.out.size gq)
  clear rq tq gq
  go_wp2_with fail
  go_ret2
  exact ⟨rfl, g', RQ.out, TQ.out, GQ.out⟩

theorem do_any (b r : Nat) (g : Option Nat) (s : ByteArray) (d : Dee) (w : World) (h : Rg w b r g s) :
    Calls Try.prog 8 #[.pointer (some ⟨b, 0, none⟩), .string s, .int .i64 (r : Nat), d.val] w (GivesDo w b r g (d.does r s)) := by
  obtain ⟨kd, n, t⟩ := d
  by_cases h0 : kd = 0
  · have e : Dee.does ⟨kd, n, t⟩ r s = s ++ t.extract 0 (min t.size (r - s.size)) := if_pos h0
    rw [e]
    exact do_put b r g s kd n t w h h0
  · by_cases h1 : kd = 1
    · have e : Dee.does ⟨kd, n, t⟩ r s = s.extract (max 0 (min n (s.size : Int))).toNat s.size := (if_neg h0).trans (if_pos h1)
      rw [e]
      exact do_take b r g s kd n t w h h1
    · by_cases h2 : kd = 2
      · have e : Dee.does ⟨kd, n, t⟩ r s = s := (if_neg h0).trans ((if_neg h1).trans (if_pos h2))
        rw [e]
        exact do_peek b r g s kd n t w h h2
      · have e : Dee.does ⟨kd, n, t⟩ r s = S0 := (if_neg h0).trans ((if_neg h1).trans (if_neg h2))
        rw [e]
        exact do_clear b r g s kd n t w h ⟨h0, h1, h2⟩
end Go.Proofs.Ytjeangfcnkhamaa
