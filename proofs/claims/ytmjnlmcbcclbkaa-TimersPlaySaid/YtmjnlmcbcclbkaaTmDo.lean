/- Proved: what the law's do answers for every deed. Conditions: those that the theorems name. -/
import Derived.Test.YtmjnlmcbcclbkaaTmLaw
namespace Go.Proofs.Ytmjnlmcbcclbkaa
open Go.ChangeShapes Go.WideShapes Go.ChangeAt Go.RowKit

/-- a deed. -/
structure Dt where
  kind : Int
  key : Ky
  z : Int
def Dt.val (d : Dt) : Value := .agg #[.int .i64 d.kind, .int .i64 d.key.1, .int .u32 d.key.2, .int .i64 d.z]
def Dt.does (d : Dt) (l : List Tm) : List Tm := if d.kind = 0 then setT l d.key d.z else if d.kind = 1 then dropT l d.key else stayT l d.z
theorem Dt.good {d : Dt} {l : List Tm} (h : Good l) (hk : KyOk d.key) : Good (d.does l) := by
  unfold Dt.does
  split
  · exact h.set hk _
  · split
    · exact h.drop _
    · exact h.stay _
theorem Dt.len (d : Dt) (l : List Tm) : (d.does l).length ≤ l.length + 1 := by
  unfold Dt.does
  split
  · exact set_len _ _ _
  · split
    · exact Nat.le_trans (drop_le _ _) (Nat.le_succ _)
    · exact Nat.le_trans (List.dropWhile_sublist _).length_le (Nat.le_succ _)
/-- What do leaves. -/
def GivesT13 (w : World) (b : Nat) (l : List Tm) (e : Ending) (w' : World) : Prop := ∃ A n c, e = .returned (.tuple #[.slice A n c, .bool true]) ∧ Ts w' A n l ∧ n ≤ c ∧ TB w w' b l
set_option maxRecDepth 100000 in
set_option maxHeartbeats 1600000 in
theorem tdo_set {w wi : World} {b : Nat} {l : List Tm} (h : TB w wi b l) (A : Option Addr) (n c : Nat) (ht : Ts wi A n l) (hc : n ≤ c) (hn : n ≤ 99) (d : Dt) (hk : KyOk d.key) (hd : d.kind = 0) :
    Calls Try.prog 8 #[.pointer (some ⟨b, 0, none⟩), .slice A n c, d.val] wi (GivesT13 w b (setT l d.key d.z)) := by
  have D1 := At.new wi 34 [.int .i64 d.kind, .int .i64 d.key.1, .int .u32 d.key.2, .int .i64 d.z]
  have B1 := (Below.refl wi.heap.size wi).alloc (Nat.le_refl _) (.cells [.int .i64 d.kind, .int .i64 d.key.1, .int .u32 d.key.2, .int .i64 d.z].toArray 34)
  have T1 := ht.below B1
  have R1 := Lib.hid (h.below B1)
  have HD := Lib.hid D1
  have hlen : l.length ≤ 500 := by have := ht.len; omega
  have x0 := D1.cell 0 rfl
  have x1 := D1.cell 1 rfl
  have x2 := D1.cell 2 rfl
  have x3 := D1.cell 3 rfl
  show Calls Try.prog 8 #[.pointer (some ⟨b, 0, none⟩), .slice A n c, .agg #[.int .i64 d.kind, .int .i64 d.key.1, .int .u32 d.key.2, .int .i64 d.z]] wi _
  have HR := Lib.hid (rset_any A n c l d.key d.z _ T1 hc hn)
  have HP := Lib.hid (fun W (g : TB w W b l) => tb_set g hlen hk d.z)
  obtain ⟨kd, k, z⟩ := d
  dsimp only at *
  subst hd
  clear D1 B1 T1 h ht
  go_enter Try.func8, Try.ntmps8
  go_wp2_with fail
  obtain ⟨k0, k1⟩ := k
  generalize wi.alloc (.cells #[.int .i64 0, .int .i64 k0, .int .u32 k1, .int .i64 z] 34) = w1 at *
  generalize setT l (k0, k1) z = l' at *
  generalize setTE z = e9 at *
  refine HR.out.mono ?_; rintro e w2 ⟨A2, n2, c2, rfl, t2, hc2, g2⟩
  have y0 := (HD.out.below g2 HD.out.lt).cell 0 rfl
  have y1 := (HD.out.below g2 HD.out.lt).cell 1 rfl
  have y2 := (HD.out.below g2 HD.out.lt).cell 2 rfl
  have y3 := (HD.out.below g2 HD.out.lt).cell 3 rfl
  have T2 := Lib.hid t2
  have R2 := Lib.hid (R1.out.below g2)
  clear x0 x1 x2 x3 t2 g2 HD R1 HR
  go_wp2_with fail
  refine (HP.out _ R2.out).mono ?_; rintro e w3 ⟨rfl, r3, k3⟩
  have T3 := Lib.hid (k3 _ _ _ T2.out)
  have R3 := Lib.hid r3
  clear k3 r3 T2 R2
  go_wp2_with fail
  go_ret2
  exact ⟨_, _, _, rfl, T3.out, hc2, R3.out⟩
set_option maxRecDepth 100000 in
set_option maxHeartbeats 1600000 in
theorem tdo_drop {w wi : World} {b : Nat} {l : List Tm} (h : TB w wi b l) (A : Option Addr) (n c : Nat) (ht : Ts wi A n l) (hn : n ≤ 99) (d : Dt) (hk : KyOk d.key) (hd : d.kind = 1) :
    Calls Try.prog 8 #[.pointer (some ⟨b, 0, none⟩), .slice A n c, d.val] wi (GivesT13 w b (dropT l d.key)) := by
  have D1 := At.new wi 34 [.int .i64 d.kind, .int .i64 d.key.1, .int .u32 d.key.2, .int .i64 d.z]
  have B1 := (Below.refl wi.heap.size wi).alloc (Nat.le_refl _) (.cells [.int .i64 d.kind, .int .i64 d.key.1, .int .u32 d.key.2, .int .i64 d.z].toArray 34)
  have T1 := ht.below B1
  have R1 := Lib.hid (h.below B1)
  have HD := Lib.hid D1
  have hlen : l.length ≤ 500 := by have := ht.len; omega
  have x0 := D1.cell 0 rfl
  have x1 := D1.cell 1 rfl
  have x2 := D1.cell 2 rfl
  have x3 := D1.cell 3 rfl
  show Calls Try.prog 8 #[.pointer (some ⟨b, 0, none⟩), .slice A n c, .agg #[.int .i64 d.kind, .int .i64 d.key.1, .int .u32 d.key.2, .int .i64 d.z]] wi _
  have HR := Lib.hid (rdrop_any A n c l d.key _ T1 (by omega))
  have HP := Lib.hid (fun W (g : TB w W b l) => tb_drop g hk)
  obtain ⟨kd, k, z⟩ := d
  dsimp only at *
  subst hd
  clear D1 B1 T1 h ht
  go_enter Try.func8, Try.ntmps8
  go_wp2_with fail
  obtain ⟨k0, k1⟩ := k
  generalize wi.alloc (.cells #[.int .i64 1, .int .i64 k0, .int .u32 k1, .int .i64 z] 34) = w1 at *
  generalize dropT l (k0, k1) = l' at *
  generalize wasT l (k0, k1) = e9 at *
  refine HR.out.mono ?_; rintro e w2 ⟨v2, rfl, o2, g2, _⟩
  obtain ⟨A2, c2, rfl, hc2, _, t2⟩ := ts_of o2
  have y0 := (HD.out.below g2 HD.out.lt).cell 0 rfl
  have y1 := (HD.out.below g2 HD.out.lt).cell 1 rfl
  have y2 := (HD.out.below g2 HD.out.lt).cell 2 rfl
  have y3 := (HD.out.below g2 HD.out.lt).cell 3 rfl
  have T2 := Lib.hid t2
  have R2 := Lib.hid (R1.out.below g2)
  clear x0 x1 x2 x3 t2 g2 o2 HD R1 HR
  go_wp2_with fail
  refine (HP.out _ R2.out).mono ?_; rintro e w3 ⟨rfl, r3, k3⟩
  have T3 := Lib.hid (k3 _ _ _ T2.out)
  have R3 := Lib.hid r3
  clear k3 r3 T2 R2
  go_wp2_with fail
  go_ret2
  exact ⟨_, _, _, rfl, T3.out, hc2, R3.out⟩
set_option maxRecDepth 100000 in
set_option maxHeartbeats 1600000 in
theorem tdo_due {w wi : World} {b : Nat} {l : List Tm} (h : TB w wi b l) (A : Option Addr) (n c : Nat) (ht : Ts wi A n l) (hc : n ≤ c) (hn : n ≤ 99) (d : Dt) (hd : d.kind ≠ 0) (hd1 : d.kind ≠ 1) :
    Calls Try.prog 8 #[.pointer (some ⟨b, 0, none⟩), .slice A n c, d.val] wi (GivesT13 w b (stayT l d.z)) := by
  have D1 := At.new wi 34 [.int .i64 d.kind, .int .i64 d.key.1, .int .u32 d.key.2, .int .i64 d.z]
  have B1 := (Below.refl wi.heap.size wi).alloc (Nat.le_refl _) (.cells [.int .i64 d.kind, .int .i64 d.key.1, .int .u32 d.key.2, .int .i64 d.z].toArray 34)
  have T1 := ht.below B1
  have R1 := Lib.hid (h.below B1)
  have HD := Lib.hid D1
  have hlen : l.length ≤ 500 := by have := ht.len; omega
  have x0 := D1.cell 0 rfl
  have x1 := D1.cell 1 rfl
  have x2 := D1.cell 2 rfl
  have x3 := D1.cell 3 rfl
  show Calls Try.prog 8 #[.pointer (some ⟨b, 0, none⟩), .slice A n c, .agg #[.int .i64 d.kind, .int .i64 d.key.1, .int .u32 d.key.2, .int .i64 d.z]] wi _
  have HR := Lib.hid (rdue_any A n c l d.z _ T1 hc (by omega))
  have HP := Lib.hid (fun W (g : TB w W b l) => tb_due g hlen d.z)
  obtain ⟨kd, k, z⟩ := d
  dsimp only at *
  have q0 : (kd == 0) = false := by simp [hd]
  have q1 : (kd == 1) = false := by simp [hd1]
  clear D1 B1 T1 h ht
  go_enter Try.func8, Try.ntmps8
  go_wp2_with fail
  obtain ⟨k0, k1⟩ := k
  generalize wi.alloc (.cells #[.int .i64 kd, .int .i64 k0, .int .u32 k1, .int .i64 z] 34) = w1 at *
  refine HR.out.mono ?_; rintro e w2 ⟨j, A2, rfl, td, ts, hc2, g2⟩
  have y0 := (HD.out.below g2 HD.out.lt).cell 0 rfl
  have y1 := (HD.out.below g2 HD.out.lt).cell 1 rfl
  have y2 := (HD.out.below g2 HD.out.lt).cell 2 rfl
  have y3 := (HD.out.below g2 HD.out.lt).cell 3 rfl
  have hj := td.len
  have hj2 : j ≤ 1000 := by rw [← hj]; exact Nat.le_trans (List.takeWhile_sublist _).length_le (by omega)
  have TD := Lib.hid td
  have T2 := Lib.hid ts
  have R2 := Lib.hid (R1.out.below g2)
  clear x0 x1 x2 x3 td ts g2 HD R1 HR
  go_wp2_with fail
  refine (HP.out _ R2.out).mono ?_; rintro e w3 ⟨A3, c3, rfl, t3, r3, k3⟩
  rw [hj] at t3 ⊢
  have T3 := Lib.hid (k3 _ _ _ T2.out)
  have TD3 := Lib.hid (k3 _ _ _ TD.out)
  have TP3 := Lib.hid t3
  have R3 := Lib.hid r3
  clear k3 r3 T2 R2 t3 TD
  go_wp2_with fail
  refine (rsame13 A3 A j c3 c _ w3 TP3.out TD3.out hj2).mono ?_; rintro e w4 ⟨rfl, g4⟩
  have T4 := Lib.hid (T3.out.below g4)
  have R4 := Lib.hid (R3.out.below g4)
  clear g4 T3 R3 TD3 TP3
  go_wp2_with fail
  go_ret2
  exact ⟨_, _, _, rfl, T4.out, hc2, R4.out⟩
theorem tdo_any {w wi : World} {b : Nat} {l : List Tm} (h : TB w wi b l) (A : Option Addr) (n c : Nat) (ht : Ts wi A n l) (hc : n ≤ c) (hn : n ≤ 99) (d : Dt) (hk : KyOk d.key) :
    Calls Try.prog 8 #[.pointer (some ⟨b, 0, none⟩), .slice A n c, d.val] wi (GivesT13 w b (d.does l)) := by
  unfold Dt.does
  split
  · exact tdo_set h A n c ht hc hn d hk ‹_›
  · split
    · exact tdo_drop h A n c ht hn d hk ‹_›
    · exact tdo_due h A n c ht hc hn d ‹_› ‹_›
end Go.Proofs.Ytmjnlmcbcclbkaa
