/- Proved: lemmas of one statement's proof, merged by program: what each part proves stands ahead of it. Conditions: those that the lemmas name. -/
import Derived.Test.YtgclgmfmcgacdaaM19
import Derived.Test.YtgclgmfmcgacdaaM21

/- Proved: what New of package table answers. Conditions: those that the theorems name. -/
namespace Go.Proofs.Ytgclgmfmcgacdaa
open Go.ChangeShapes Go.WideShapes Go.ChangeAt Go.RowKit Go.MuLone

theorem res_line {T : Array Value} {W : World} {b : Nat} {x : Int} {z : Nat} (h2 : T.getD 2 undef = .pointer (some ⟨b, 0, none⟩)) (h : At W b 62 [.int .i32 0, .int .u32 0, .int .i64 x, .int .i64 0, ptv z]) : (results Try.f16 T).run Try.prog W = .ok (.agg #[.int .i32 0, .int .u32 0, .int .i64 x, .int .i64 0, ptv z]) W := by
  have h2' : T[2]?.getD undef = .pointer (some ⟨b, 0, none⟩) := by simpa using h2
  have c0 := h.cell 0 rfl
  have c1 := h.cell 1 rfl
  have c2 := h.cell 2 rfl
  have c3 := h.cell 3 rfl
  have c4 := h.cell 4 rfl
  simp [results, Try.results16, h2', c0, c1, c2, c3, c4, go_sem]
set_option maxRecDepth 100000 in
set_option maxHeartbeats 1600000 in
theorem new_line (room : Nat) (w : World) :
    Calls Try.prog 16 #[.int .i64 room] w fun e w' => ∃ z, e = .returned (.agg #[.int .i32 0, .int .u32 0, .int .i64 room, .int .i64 0, ptv z]) ∧ w.heap.size ≤ z ∧ Nd w' z (0, 0) 0 S0 (.slice none 0 0) (some z) (some z) ∧ Tn Nil w w' := by
  go_enter Try.func16, Try.ntmps16
  go_wp2_with fail
  have hb := (At.new w 62 [.int .i32 0, .int .u32 0, .int .i64 room, .int .i64 0, ptv (w.heap.size + 1)]).alloc (.cells (ecells (0, 0) 0 S0 (.slice none 0 0) (some (w.heap.size + 1)) (some (w.heap.size + 1))).toArray 95)
  have hz := At.new (w.alloc (.cells [.int .i32 0, .int .u32 0, .int .i64 room, .int .i64 0, ptv (w.heap.size + 1)].toArray 62)) 95 (ecells (0, 0) 0 S0 (.slice none 0 0) (some (w.heap.size + 1)) (some (w.heap.size + 1)))
  rw [size_alloc] at hz
  exact bodyPost_ret (v := .agg #[.int .i32 0, .int .u32 0, .int .i64 room, .int .i64 0, ptv (w.heap.size + 1)]) (res_line rfl hb) rfl ⟨w.heap.size + 1, rfl, by omega, hz, ((Tn.refl Nil w).alloc _).alloc _⟩
set_option maxRecDepth 100000 in
set_option maxHeartbeats 1600000 in
theorem tb_new_bad (parts room : Int) (w : World) (h : parts < 1 ∨ 64 < parts ∨ room < 1 ∨ 65536 < room) :
    Calls Try.prog 7 #[.int .i64 parts, .int .i64 room] w fun e w' => e = .returned (.tuple #[.pointer none, .int .i64 1]) ∧ w = w' := by
  have hc : parts < 1 ∨ (¬ parts < 1 ∧ 64 < parts) ∨ (¬ parts < 1 ∧ ¬ 64 < parts ∧ room < 1) ∨ (¬ parts < 1 ∧ ¬ 64 < parts ∧ ¬ room < 1 ∧ 65536 < room) := by omega
  clear h
  rcases hc with h | ⟨h, h'⟩ | ⟨h, h', h''⟩ | ⟨h, h', h'', h3⟩
  all_goals
    go_enter Try.func7, Try.ntmps7
    go_wp2_with fail
    first
      | (refine bodyPost_ret (results_tmp2 rfl _ _ _) rfl ?_; exact ⟨rfl, rfl⟩)
/-! ### parts that are being made -/
def qcells (f : Nat → Option Nat) : Nat → List Value
  | 0 => []
  | n + 1 => qcells f n ++ [.int .i32 0, .int .u32 0, .map (f n)]
theorem qcells_len (f : Nat → Option Nat) (n : Nat) : (qcells f n).length = n * 3 := by
  induction n with
  | zero => rfl
  | succ n ih =>
    rw [show qcells f (n + 1) = qcells f n ++ [.int .i32 0, .int .u32 0, .map (f n)] from rfl, List.length_append, ih]; simp; omega
theorem qcells_same {f g : Nat → Option Nat} {n : Nat} (h : ∀ j, j < n → f j = g j) : qcells f n = qcells g n := by
  induction n with
  | zero => rfl
  | succ n ih =>
    rw [show qcells f (n + 1) = qcells f n ++ [.int .i32 0, .int .u32 0, .map (f n)] from rfl, show qcells g (n + 1) = qcells g n ++ [.int .i32 0, .int .u32 0, .map (g n)] from rfl, ih (fun j hj => h j (by omega)), h n (by omega)]
theorem qcells_set (f : Nat → Option Nat) {n j : Nat} (h : j < n) (x : Nat) : (qcells f n).set (j * 3 + 2) (.map (some x)) = qcells (upd f j (some x)) n := by
  induction n with
  | zero => omega
  | succ n ih =>
    rw [show qcells f (n + 1) = qcells f n ++ [.int .i32 0, .int .u32 0, .map (f n)] from rfl, show qcells (upd f j (some x)) (n + 1) = qcells (upd f j (some x)) n ++ [.int .i32 0, .int .u32 0, .map (upd f j (some x) n)] from rfl]
    by_cases e : j = n
    · subst e
      rw [List.set_append_right _ _ (by rw [qcells_len]; omega), qcells_len, show j * 3 + 2 - j * 3 = 2 by omega, upd_same, qcells_same (g := upd f j (some x)) (fun i hi => (upd_other _ _ (by omega)).symm)]
      rfl
    · rw [List.set_append_left _ _ (by rw [qcells_len]; omega), ih (by omega), upd_other _ _ (fun f => e f.symm)]
theorem qcells_p (mp : Nat → Nat) (n : Nat) : qcells (fun j => some (mp j)) n = pcells mp (fun _ => 0) n := by
  induction n with
  | zero => rfl
  | succ n ih =>
    rw [show qcells (fun j => some (mp j)) (n + 1) = qcells (fun j => some (mp j)) n ++ [.int .i32 0, .int .u32 0, .map (some (mp n))] from rfl, ih]; rfl
theorem made_q (n : Nat) : madeCells #[.int .i32 0, .int .u32 0, .map none] (n * 3) = (qcells (fun _ => none) n).toArray := by
  induction n with
  | zero => simp [madeCells, qcells]
  | succ n ih =>
    rw [show qcells (fun _ => none) (n + 1) = qcells (fun _ => none) n ++ [.int .i32 0, .int .u32 0, .map none] from rfl]
    unfold madeCells at ih ⊢
    rw [show (n + 1) * 3 = n * 3 + 1 + 1 + 1 by omega, Array.range_succ, Array.range_succ, Array.range_succ, Array.map_append, Array.map_append, Array.map_append, ih]
    have h0 : n * 3 % 3 = 0 := by omega
    have h1 : (n * 3 + 1) % 3 = 1 := by omega
    have h2 : (n * 3 + 2) % 3 = 2 := by omega
    simp [h0, h1, h2]
theorem infoPart : (Try.prog.info? 68).map (fun i => (i.zero, i.size, i.bytes)) = some (some (.agg #[.int .i32 0, .int .u32 0, .map none]), 3, 16) := by kernel_rfl
theorem make_parts (n : Nat) (h : n ≤ 64) (W : World) : (Instr.makeSlice 53 (.int .i64 n) (.int .i64 n)).run Try.prog W = .ok (.slice (some ⟨W.heap.size, 0, none⟩) n n) (W.alloc (.cells (qcells (fun _ => none) n).toArray 68)) := by
  obtain ⟨i0, hi0, hz0, hz1, hz2⟩ := info_parts infoPart
  have := run_makeSlice (P := Try.prog) W 53 68 i0 (.agg #[.int .i32 0, .int .u32 0, .map none]) Try.underlying53 hi0 hz0 .i64 .i64 (n : Int) (n : Int) (by omega) (by omega) (by rw [hz1]; omega) (by rw [hz2]; omega) (by omega)
  rw [this]
  simp [hz1, Value.cells, made_q]
/-! ### New -/
/-- the layout of a table that was made. -/
def newL (b gp z n : Nat) (mp : Nat → Nat) : Ly := { b := b, gp := gp, z := z, mp := mp, col := fun i => if i = b then 0 else if i = gp then 1 else if i = z then 2 else match (List.range n).find? (fun j => decide (mp j = i)) with | some j => 100 + j | none => -1 }
theorem newL_map {b gp z n : Nat} {mp : Nat → Nat} (h : ∀ j, j < n → mp j ≠ b ∧ mp j ≠ gp ∧ mp j ≠ z) (hi : ∀ i j, i < n → j < n → mp i = mp j → i = j) {j : Nat} (hj : j < n) : (newL b gp z n mp).col (mp j) = 100 + j := by
  show (if mp j = b then (0 : Int) else if mp j = gp then 1 else if mp j = z then 2 else match (List.range n).find? (fun i => decide (mp i = mp j)) with | some i => 100 + (i : Int) | none => -1) = _
  obtain ⟨h1, h2, h3⟩ := h j hj
  rw [if_neg h1, if_neg h2, if_neg h3]
  cases hf : (List.range n).find? (fun i => decide (mp i = mp j)) with
  | none =>
    rw [List.find?_eq_none] at hf
    exact absurd (decide_eq_true (rfl : mp j = mp j)) (hf j (List.mem_range.2 hj))
  | some i =>
    have h4 := List.mem_range.1 (List.mem_of_find?_eq_some hf)
    have h5 : mp i = mp j := by simpa using List.find?_some hf
    rw [hi i j h4 hj h5]
theorem newL_free {b gp z n : Nat} {mp : Nat → Nat} {i : Nat} (h1 : i ≠ b) (h2 : i ≠ gp) (h3 : i ≠ z) (h : ∀ j, j < n → mp j ≠ i) : (newL b gp z n mp).col i = -1 := by
  show (if i = b then (0 : Int) else if i = gp then 1 else if i = z then 2 else match (List.range n).find? (fun j => decide (mp j = i)) with | some j => 100 + (j : Int) | none => -1) = _
  rw [if_neg h1, if_neg h2, if_neg h3]
  cases hf : (List.range n).find? (fun j => decide (mp j = i)) with
  | none => rfl
  | some j =>
    have h4 := List.mem_range.1 (List.mem_of_find?_eq_some hf)
    have h5 : mp j = i := by simpa using List.find?_some hf
    exact absurd h5 (h j h4)
/-- the table while its maps are made. -/
def NewAt (w1 : World) (b gp z n room : Nat) (k : Nat) (wr : World) : Prop := ∃ mp : Nat → Nat,
  At wr b 65 [.slice (some ⟨gp, 0, none⟩) n n, .int .i32 0, .int .u32 0, .int .i64 room, .int .i64 0, ptv z] ∧
  At wr gp 68 (qcells (fun j => if j < k then some (mp j) else none) n) ∧ Nd wr z (0, 0) 0 S0 (.slice none 0 0) (some z) (some z) ∧
  (∀ j, j < k → Mq wr (mp j) (fun _ => none) 0 ∧ w1.heap.size ≤ mp j) ∧ (∀ i j, i < k → j < k → mp i = mp j → i = j) ∧ Tn (fun i => i = gp) w1 wr
theorem NewAt.next {w1 wr : World} {b gp z n room k : Nat} (h : NewAt w1 b gp z n room k wr) (hk : k < n) (hd : b ≠ gp ∧ b ≠ z ∧ gp ≠ z) : NewAt w1 b gp z n room (k + 1) ((wr.alloc (.map #[] 0)).setCell ⟨gp, k * 3 + 2, none⟩ (.map (some wr.heap.size))) := by
  obtain ⟨mp, hb, hg, hz, hm, hi, ht⟩ := h
  have t1 : Tn Nil wr (wr.alloc (.map #[] 0)) := (Tn.refl Nil wr).alloc _
  have t2 : Tn (fun i => i = gp) (wr.alloc (.map #[] 0)) ((wr.alloc (.map #[] 0)).setCell ⟨gp, k * 3 + 2, none⟩ (.map (some wr.heap.size))) := (Tn.refl (fun i => i = gp) _).set ⟨gp, k * 3 + 2, none⟩ _ (fun _ => rfl)
  have hgl := hg.lt
  refine ⟨upd mp k wr.heap.size, (hb.tn t1 (fun e => e)).tn t2 hd.1, ?_, (hz.tn t1 (fun e => e)).tn t2 (fun e => hd.2.2 e.symm), fun j hj => ?_, fun i j hi' hj' e => ?_, (ht.trans (t1.mono fun _ _ e => e.elim)).trans t2⟩
  · have := (hg.tn t1 (fun e => e)).set_ (k * 3 + 2) (.map (some wr.heap.size))
    rw [qcells_set _ hk] at this
    rw [qcells_same (g := upd (fun j => if j < k then some (mp j) else none) k (some wr.heap.size)) (fun j _ => ?_)]
    · exact this
    · unfold upd
      by_cases e : j = k
      · subst e; simp
      · rw [if_neg e, if_neg e]
        by_cases f : j < k
        · rw [if_pos (by omega)]; exact (if_pos f).symm
        · rw [if_neg (by omega)]; exact (if_neg f).symm
  · unfold upd
    by_cases e : j = k
    · rw [if_pos e]
      exact ⟨(Mq.new wr).tn t2 (fun f => by omega), ht.size⟩
    · rw [if_neg e]
      obtain ⟨h1, h2⟩ := hm j (by omega)
      refine ⟨(h1.tn t1 (fun e => e)).tn t2 (fun f => ?_), h2⟩
      obtain ⟨D, ⟨es, clock, hbm, _⟩, _⟩ := h1
      rw [f, show wr.heap[gp]? = _ from hg] at hbm
      cases hbm
  · unfold upd at e
    by_cases e1 : i = k <;> by_cases e2 : j = k
    · omega
    · rw [if_pos e1, if_neg e2] at e
      have := (hm j (by omega)).1.lt
      omega
    · rw [if_neg e1, if_pos e2] at e
      have := (hm i (by omega)).1.lt
      omega
    · rw [if_neg e1, if_neg e2] at e
      exact hi i j (by omega) (by omega) e
set_option maxRecDepth 100000 in
set_option maxHeartbeats 3200000 in
theorem tb_new (n room : Nat) (hn : 1 ≤ n ∧ n ≤ 64) (hr : 1 ≤ room ∧ room ≤ 65536) (w : World) :
    Calls Try.prog 7 #[.int .i64 n, .int .i64 room] w fun e w' => ∃ L, e = .returned (.tuple #[ptv L.b, .int .i64 0]) ∧ Tb w' L n room [] ∧ (∀ i, i < w.heap.size → L.col i = -1) ∧ Tn Nil w w' := by
  have hn1 : ¬ (n : Int) < 1 := by omega
  have hn2 : ¬ (64 : Int) < n := by omega
  have hr1 : ¬ (room : Int) < 1 := by omega
  have hr2 : ¬ (65536 : Int) < room := by omega
  have HN := Lib.hid hn
  have HR := Lib.hid hr
  have hmk := make_parts n hn.2
  have hnn : (n : Int) ≤ 64 := by omega
  clear hn hr
  go_enter Try.func7, Try.ntmps7
  go_wp2_with fail
  go_cut [6] (fun v wx => ∃ b gp z, v = ptv b ∧ At wx b 65 [.slice (some ⟨gp, 0, none⟩) n n, .int .i32 0, .int .u32 0, .int .i64 room, .int .i64 0, ptv z] ∧ At wx gp 68 (qcells (fun _ => none) n) ∧ Nd wx z (0, 0) 0 S0 (.slice none 0 0) (some z) (some z) ∧ (b ≠ gp ∧ b ≠ z ∧ gp ≠ z) ∧ (w.heap.size ≤ b ∧ w.heap.size ≤ gp ∧ w.heap.size ≤ z) ∧ Tn Nil w wx)
  case first =>
    go_region_with (go_at_call 16; refine (new_line room _).mono ?_; rintro e w2 ⟨z, rfl, hz, hnd, ht⟩; have HZ := Lib.hid (And.intro hz (And.intro hnd ht)); clear hz hnd ht)
    all_goals
      go_wp2_with fail
      go_meet
      first
        | (have hsz : w.heap.size + 1 ≤ z := by (have h0 := HZ.out.1; have h1 : ((w.alloc (.cells (qcells (fun _ => none) n).toArray 68)).drew.heap.size) = w.heap.size + 1 := size_alloc w _; omega)
           have hw2 : w.heap.size + 1 ≤ w2.heap.size := by (have h0 := HZ.out.2.2.size; have h1 : ((w.alloc (.cells (qcells (fun _ => none) n).toArray 68)).drew.heap.size) = w.heap.size + 1 := size_alloc w _; omega)
           have hzl := At.lt HZ.out.2.1
           have hgp : At (w.alloc (.cells (qcells (fun _ => none) n).toArray 68)).drew w.heap.size 68 (qcells (fun _ => none) n) := (At.new w 68 (qcells (fun _ => none) n)).tn (Tn.refl Nil _).drew (fun e => e)
           exact ⟨w2.heap.size, w.heap.size, z, rfl, At.new w2 _ [.slice (some ⟨w.heap.size, 0, none⟩) n n, .int .i32 0, .int .u32 0, .int .i64 room, .int .i64 0, ptv z], (hgp.tn HZ.out.2.2 (fun e => e)).alloc _, HZ.out.2.1.tn ((Tn.refl Nil w2).alloc _) (fun e => e), ⟨by omega, by omega, by omega⟩, ⟨by omega, by omega, by omega⟩, (((Tn.refl Nil w).alloc _).drew.trans HZ.out.2.2).alloc _⟩)
        | (have hsz : w.heap.size ≤ z := HZ.out.1
           have hw2 : w.heap.size ≤ w2.heap.size := HZ.out.2.2.size
           have hzl := At.lt HZ.out.2.1
           have hb := At.new (w2.alloc (.cells (qcells (fun _ => none) n).toArray 68)) 65 [.slice (some ⟨w2.heap.size, 0, none⟩) n n, .int .i32 0, .int .u32 0, .int .i64 room, .int .i64 0, ptv z]
           rw [size_alloc] at hb
           exact ⟨w2.heap.size + 1, w2.heap.size, z, rfl, hb, (At.new w2 68 (qcells (fun _ => none) n)).alloc _, HZ.out.2.1.tn (((Tn.refl Nil w2).alloc _).alloc _) (fun e => e), ⟨by omega, by omega, by omega⟩, ⟨by omega, by omega, by omega⟩, (((Tn.refl Nil w).drew.trans HZ.out.2.2).alloc _).alloc _⟩)
  case rest =>
    obtain ⟨b, gp, z, rfl, hb, hgp, hz, hd, hs, ht⟩ := hcut
    rename World => w1
    have HB := Lib.hid hb
    have HD := Lib.hid hd
    have HS := Lib.hid hs
    have HT := Lib.hid ht
    have HNA : Hid (NewAt w1 b gp z n room 0 w1) := Lib.hid ⟨fun _ => 0, hb, by rw [qcells_same (g := fun _ => none) (fun j _ => by simp)]; exact hgp, hz, fun j hj => absurd hj (by omega), fun i j hi => absurd hi (by omega), Tn.refl _ w1⟩
    have HLB : Hid (b < w1.heap.size ∧ gp < w1.heap.size ∧ z < w1.heap.size) := Lib.hid ⟨hb.lt, hgp.lt, At.lt hz⟩
    have b0 := hb.cell 0 rfl
    have hnn0 : (0 : Int) ≤ (n : Int) := Int.natCast_nonneg _
    clear hb hgp hz hd hs ht hmk hn1 hn2 hr1 hr2
    go_wp2_with fail
    clear b0
    go_loopw [33] (fun j wr => ∃ k : Nat, k ≤ n ∧ j = .int .i64 k ∧ NewAt w1 b gp z n room k wr) (fun j _ => n - (intOf j).toNat)
    case atStart => exact ⟨0, by omega, rfl, HNA.out⟩
    case round =>
      obtain ⟨k, hk, rfl, hna⟩ := hrel
      have HK := Lib.hid hna
      have hk0 : (0 : Int) ≤ (k : Int) := Int.natCast_nonneg _
      by_cases hlt : k < n
      · have hlt' : (k : Int) < (n : Int) := by omega
        have hx := hna.next hlt HD.out
        rw [World.setCell_alloc_past _ _ _ _ (by obtain ⟨_, _, hg, _⟩ := hna; exact hg.lt)] at hx
        have HX := Lib.hid hx
        clear hx
        obtain ⟨mp, hb, hg, _⟩ := hna
        have hmm := @run_makeMap Try.prog
        have b0 := hb.cell 0 rfl
        have fg := hg.free (k * 3 + 2)
        obtain ⟨v, hv⟩ : ∃ v, (qcells (fun j => if j < k then some (mp j) else none) n)[k * 3 + 2]? = some v := ⟨_, List.getElem?_eq_getElem (by rw [qcells_len]; omega)⟩
        have g2 := hg.cell (k * 3 + 2) hv
        have hgl := hg.lt
        clear hb hg hk hv
        go_wp2_with fail
        go_roundw
        case rel => exact ⟨k + 1, by omega, by go_num, HX.out⟩
        case measure => simp [intOf]; omega
      · obtain rfl : k = n := by omega
        clear hna
        go_wp2_with fail
        refine bodyPost_ret (results_tmp2 rfl _ _ _) rfl ?_
        obtain ⟨mp, hb, hg, hz, hm, hi, ht⟩ := HK.out
        have hne : ∀ j, j < k → mp j ≠ b ∧ mp j ≠ gp ∧ mp j ≠ z := fun j hj => by
          have h1 := (hm j hj).2
          have h2 := HLB.out
          omega
        have hcm := fun j (hj : j < k) => newL_map (b := b) (gp := gp) (z := z) hne hi hj
        have hcb : (newL b gp z k mp).col b = 0 := if_pos rfl
        have hcg : (newL b gp z k mp).col gp = 1 := (if_neg (fun e => HD.out.1 e.symm)).trans (if_pos rfl)
        have hcz : (newL b gp z k mp).col z = 2 := ((if_neg (fun e => HD.out.2.1 e.symm)).trans (if_neg (fun e => HD.out.2.2 e.symm))).trans (if_pos rfl)
        have hg' : At wr gp 68 (pcells mp (fun _ => 0) k) := by
          rw [← qcells_p, ← qcells_same (f := fun j => if j < k then some (mp j) else none) (fun j hj => by rw [if_pos hj])]
          exact hg
        refine ⟨newL b gp z k mp, rfl, ⟨⟨hb, hg', fun j hj => (hm j hj).1.congr fun i _ => ?_, ⟨fun _ => some z, fun _ => some z, hz, fun e he => absurd he (by simp), ⟨rfl, rfl⟩⟩, by simp [lineP], fun q hq => absurd hq (by simp [lineP]), List.nodup_nil, hcb, hcg, hcz, hcm, fun i hi' => ?_⟩, ⟨fun e he => absurd he (by simp), List.nodup_nil, Nat.zero_le _, HR.out.2⟩, HN.out.1, HN.out.2⟩, fun i hi' => ?_, ?_⟩
        · unfold fOf findE; simp
        · have h2 := HLB.out
          have h3 := ht.size
          exact newL_free (by omega) (by omega) (by omega) (fun j hj e => by have := (hm j hj).1.lt; omega)
        · have h2 := HS.out
          have h3 := HT.out.size
          exact newL_free (by omega) (by omega) (by omega) (fun j hj e => by have := (hm j hj).2; omega)
        · exact HT.out.trans' ht fun i hi' e => by
            have h2 := HS.out
            have e : i = gp := e
            omega
end Go.Proofs.Ytgclgmfmcgacdaa

/- Proved: the calls of package table, spoken of entries without their places. Conditions: those that the theorems name. -/
namespace Go.Proofs.Ytgclgmfmcgacdaa
open Go.ChangeShapes Go.WideShapes Go.ChangeAt Go.RowKit Go.MuLone

/-- an entry without its place. -/
structure Fe where
  k : Ky
  need : Nat
  l : List Shd
def En.face (e : En) : Fe := ⟨e.k, e.need, e.l⟩
def Fe.ready (e : Fe) : Bool := decide (e.l.length = e.need)
def Fe.more (e : Fe) (x : Shd) : Fe := ⟨e.k, e.need, insS e.l x⟩
def findF (S : List Fe) (k : Ky) : Option Fe := S.find? fun e => decide (e.k = k)
def getF (S : List Fe) (k : Ky) : List Shd := match findF S k with | some e => e.l | none => []
def oldF (S : List Fe) : Option Fe := S.find? fun e => !e.ready
def oldFK (S : List Fe) : Ky := match oldF S with | some e => e.k | none => (0, 0)
/-- Put's answer, and what is there then. -/
def putF (S : List Fe) (room : Nat) (k : Ky) (need : Int) (x : Shd) : Int × List Fe :=
  if badP need x = true then (5, S) else match findF S k with
  | none => if S.length = room then (2, S) else (if need = 1 then 3 else 0, S ++ [⟨k, need.toNat, [x]⟩])
  | some e => match roleR e.l e.need need x with
    | .wanted _ => (if (e.more x).ready = true then 3 else 0, S.map fun a => if a.k = k then a.more x else a)
    | .known => (1, S)
    | _ => (4, S)
def keepF (S : List Fe) (P : Ky → Bool) : List Fe := S.filter fun e => P e.k
theorem find_face (X : List En) (k : Ky) : findF (X.map En.face) k = (findE X k).map En.face := by
  unfold findF findE
  rw [List.find?_map]
  rfl
theorem get_face (X : List En) (k : Ky) : getF (X.map En.face) k = getL X k := by
  unfold getF getL
  rw [find_face]
  cases findE X k <;> rfl
theorem old_face (X : List En) : oldF (X.map En.face) = (oldE X).map En.face := by
  unfold oldF oldE
  rw [List.find?_map]
  rfl
theorem oldK_face (X : List En) : oldFK (X.map En.face) = oldK X := by
  unfold oldFK oldK
  rw [old_face]
  cases oldE X <;> rfl
theorem keep_face (X : List En) (P : Ky → Bool) : keepF (X.map En.face) P = (keepX X P).map En.face := by
  unfold keepF keepX
  rw [List.filter_map]
  rfl
theorem putN_face (X : List En) (room : Nat) (k : Ky) (need : Int) (x : Shd) : (putF (X.map En.face) room k need x).1 = putN X room k need x := by
  unfold putF putN
  by_cases hb : badP need x = true
  · rw [if_pos hb, if_pos hb]
  · rw [if_neg hb, if_neg hb, find_face]
    cases findE X k with
    | none =>
      simp only [Option.map_none, List.length_map]
      split <;> rfl
    | some e =>
      simp only [Option.map_some]
      show (match roleR e.l e.need need x with | .wanted _ => _ | .known => _ | _ => _ : Int × List Fe).1 = _
      cases roleR e.l e.need need x <;> rfl
theorem putX_face {X X' : List En} {room : Nat} {k : Ky} {need : Int} {x : Shd} (hk : (X.map En.k).Nodup) (h : PutX X room k need x X') : X'.map En.face = (putF (X.map En.face) room k need x).2 := by
  unfold PutX at h
  unfold putF
  by_cases hb : badP need x = true
  · rw [if_pos hb] at h ⊢; rw [h]
  · rw [if_neg hb] at h ⊢
    rw [find_face]
    cases hf : findE X k with
    | none =>
      rw [hf] at h
      simp only [Option.map_none, List.length_map] at h ⊢
      by_cases hr : X.length = room
      · rw [if_pos hr] at h ⊢; rw [h]
      · rw [if_neg hr] at h ⊢
        obtain ⟨p, rfl⟩ := h
        simp [En.face]
    | some e =>
      rw [hf] at h
      simp only [Option.map_some] at h ⊢
      have e2 : (match roleR e.face.l e.face.need need x with | .wanted _ => (if (e.face.more x).ready = true then 3 else 0, (X.map En.face).map fun a => if a.k = k then a.more x else a) | .known => (1, X.map En.face) | _ => (4, X.map En.face) : Int × List Fe) = (match roleR e.l e.need need x with | .wanted _ => (if (e.face.more x).ready = true then 3 else 0, (X.map En.face).map fun a => if a.k = k then a.more x else a) | .known => (1, X.map En.face) | _ => (4, X.map En.face)) := rfl
      rw [e2]
      cases hr : roleR e.l e.need need x with
      | wanted i =>
        rw [hr] at h
        obtain ⟨A, B, rfl, rfl⟩ := h
        obtain ⟨_, hek⟩ := findE_some hf
        subst hek
        simp only [List.map_append, List.map_cons, List.map_map]
        rw [List.map_append, List.map_cons, List.nodup_append, List.nodup_cons] at hk
        congr 1
        · refine List.map_congr_left fun a ha => ?_
          have : a.k ≠ e.k := fun f => hk.2.2 a.k (List.mem_map.2 ⟨a, ha, rfl⟩) e.k (by simp) f
          simp [En.face, this]
        · congr 1
          · simp [En.face, moreE, Fe.more]
          · refine List.map_congr_left fun a ha => ?_
            have : a.k ≠ e.k := fun f => hk.2.1.1 (List.mem_map.2 ⟨a, ha, f⟩)
            simp [En.face, this]
      | first => rw [hr] at h; rw [h]
      | known => rw [hr] at h; rw [h]
      | unlike => rw [hr] at h; rw [h]
/-! ### a table made since w -/
def SB (w wi : World) (L : Ly) (n room : Nat) (S : List Fe) : Prop := ∃ X, Tb wi L n room X ∧ X.map En.face = S ∧ (∀ i, i < w.heap.size → L.col i = -1) ∧ Tn Nil w wi
/-- what is not the table's stays. -/
structure Fr (wi : World) (L : Ly) (w' : World) (L' : Ly) : Prop where
  col : ∀ i, i < wi.heap.size → L'.col i = L.col i
  tn : Tn (Mine L) wi w'
theorem Fr.trans {w1 w2 w3 : World} {L1 L2 L3 : Ly} (h : Fr w1 L1 w2 L2) (k : Fr w2 L2 w3 L3) : Fr w1 L1 w3 L3 :=
  ⟨fun i hi => (k.col i (Nat.lt_of_lt_of_le hi h.tn.size)).trans (h.col i hi), h.tn.trans' k.tn fun i hi e => by unfold Mine at e ⊢; rwa [h.col i hi] at e⟩
theorem Fr.at_ {w1 w2 : World} {L1 L2 : Ly} (h : Fr w1 L1 w2 L2) {b : Nat} {t : TypeId} {xs : List Value} (k : At w1 b t xs) (hc : L1.col b = -1) : At w2 b t xs ∧ L2.col b = -1 :=
  ⟨k.tn h.tn (fun e => e hc), (h.col b k.lt).trans hc⟩
theorem Fr.free {w1 w2 : World} (L : Ly) (h : Tn Nil w1 w2) : Fr w1 L w2 L := ⟨fun _ _ => rfl, h.mono fun _ _ e => e.elim⟩
section
variable {w wi w' : World} {L L' : Ly} {n room : Nat} {S S' : List Fe}
theorem SB.step {X' : List En} (h : SB w wi L n room S) (f : Fr wi L w' L') (t : Tb w' L' n room X') (e : X'.map En.face = S') : SB w w' L' n room S' := by
  obtain ⟨X, _, _, hc, ht⟩ := h
  exact ⟨X', t, e, fun i hi => (f.col i (Nat.lt_of_lt_of_le hi ht.size)).trans (hc i hi), ht.trans' f.tn (fun i hi e => e (hc i hi))⟩
theorem SB.free (h : SB w wi L n room S) (t : Tn Nil wi w') : SB w w' L n room S := by
  obtain ⟨X, hx, e, _, _⟩ := id h
  exact h.step (Fr.free L t) (hx.free t) e
theorem SB.own {c : Nat → Prop} (h : SB w wi L n room S) (t : Tn c wi w') (hc : ∀ g, g < wi.heap.size → c g → L.col g = -1 ∧ szW w ≤ g) : SB w w' L n room S := by
  obtain ⟨X, hx, e, h1, h2⟩ := h
  exact ⟨X, hx.tn t (fun g hg f => (hc g hg f).1), e, h1, h2.trans' t (fun g hg f => absurd hg (by have := hc g (Nat.lt_of_lt_of_le hg h2.size) f; unfold szW at this; omega))⟩
theorem SB.new (h : SB w wi L n room S) : L.col wi.heap.size = -1 := by
  obtain ⟨X, hx, _⟩ := h
  exact hx.st.ahead _ (Nat.le_refl _)
theorem SB.alloc (h : SB w wi L n room S) (o : Obj) : SB w (wi.alloc o) L n room S := h.free ((Tn.refl _ wi).alloc o)
theorem sb_new (n room : Nat) (hn : 1 ≤ n ∧ n ≤ 64) (hr : 1 ≤ room ∧ room ≤ 65536) (h0 : Tn Nil w wi) :
    Calls Try.prog 7 #[.int .i64 n, .int .i64 room] wi fun e w' => ∃ L, e = .returned (.tuple #[ptv L.b, .int .i64 0]) ∧ SB w w' L n room [] ∧ Tn Nil wi w' ∧ ∀ i, i < wi.heap.size → L.col i = -1 := by
  refine (tb_new n room hn hr wi).mono ?_
  rintro e w' ⟨L, rfl, ht, hc, t⟩
  exact ⟨L, rfl, ⟨[], ht, rfl, fun i hi => hc i (Nat.lt_of_lt_of_le hi h0.size), h0.trans t⟩, t, hc⟩
theorem sb_put {k : Ky} (h : SB w wi L n room S) (hk : KyOk k) (need i : Int) (t : ByteArray) {r : Int × List Fe} (hr : putF S room k need (i, t) = r) :
    Calls Try.prog 12 #[ptv L.b, kyV k, .int .i64 need, .agg #[.int .i64 i, .string t]] wi fun e w' => e = .returned (.int .i64 r.1) ∧ ∃ L', L'.b = L.b ∧ SB w w' L' n room r.2 ∧ Fr wi L w' L' := by
  subst hr
  by_cases hb : badP need (i, t) = true
  · refine (put_bad (some L.b) k need (i, t) (.inr hb)).mono ?_
    rintro e w' ⟨rfl, t'⟩
    unfold putF
    rw [if_pos hb]
    exact ⟨rfl, L, rfl, h.free t', Fr.free L t'⟩
  · obtain ⟨X, hx, e, hc, ht⟩ := id h
    have hb' : badP need (i, t) = false := by simpa using hb
    have hb2 := hb'
    unfold badP at hb2
    simp only [Bool.or_eq_false_iff, decide_eq_false_iff_not] at hb2
    obtain ⟨nd, rfl⟩ : ∃ nd : Nat, need = nd := ⟨need.toNat, by omega⟩
    obtain ⟨j, rfl⟩ : ∃ j : Nat, i = j := ⟨i.toNat, by omega⟩
    refine (tb_put hx hk nd j t hb').mono ?_
    rintro e' w' ⟨rfl, ⟨L', X', hl, hp, hx'⟩, t'⟩
    subst e
    refine ⟨by rw [putN_face], L', hl.b, ?_, ⟨hl.col, t'⟩⟩
    exact h.step ⟨hl.col, t'⟩ hx' (putX_face hx.wf.kn hp)
theorem sb_get {k : Ky} (h : SB w wi L n room S) (hk : KyOk k) {l : List Shd} {b : Bool} (hl : getF S k = l) (hb : (findF S k).isSome = b) :
    Calls Try.prog 13 #[ptv L.b, kyV k] wi fun e w' => GivesG wi l b e w' ∧ SB w w' L n room S ∧ Fr wi L w' L := by
  subst hl; subst hb
  obtain ⟨X, hx, e, hc, ht⟩ := id h
  subst e
  refine (tb_get hx hk).mono ?_
  rintro e w' ⟨hg, hx', t'⟩
  rw [get_face, find_face, Option.isSome_map]
  exact ⟨hg, h.step ⟨fun _ _ => rfl, t'⟩ hx' rfl, ⟨fun _ _ => rfl, t'⟩⟩
theorem sb_take {k : Ky} (h : SB w wi L n room S) (hk : KyOk k) {l : List Shd} {b : Bool} (hl : getF S k = l) (hb : (findF S k).isSome = b) (hs : keepF S (butK k) = S') :
    Calls Try.prog 14 #[ptv L.b, kyV k] wi fun e w' => GivesG wi l b e w' ∧ SB w w' L n room S' ∧ Fr wi L w' L := by
  subst hl; subst hb; subst hs
  obtain ⟨X, hx, e, hc, ht⟩ := id h
  subst e
  refine (tb_take hx hk).mono ?_
  rintro e w' ⟨hg, hx', t'⟩
  rw [get_face, find_face, Option.isSome_map]
  exact ⟨hg, h.step ⟨fun _ _ => rfl, t'⟩ hx' (keep_face ..).symm, ⟨fun _ _ => rfl, t'⟩⟩
theorem sb_drop {s : Int} (h : SB w wi L n room S) {m : Nat} (hm : (S.filter fun e => decide (e.k.1 = s)).length = m) (hs : keepF S (fun k => !decide (k.1 = s)) = S') :
    Calls Try.prog 15 #[ptv L.b, .int .i64 s] wi fun e w' => e = .returned (.int .i64 (m : Nat)) ∧ SB w w' L n room S' ∧ Fr wi L w' L := by
  subst hm; subst hs
  obtain ⟨X, hx, e, hc, ht⟩ := id h
  subst e
  refine (tb_drop hx).mono ?_
  rintro e w' ⟨rfl, hx', t'⟩
  rw [List.filter_map, List.length_map]
  exact ⟨rfl, h.step ⟨fun _ _ => rfl, t'⟩ hx' (keep_face ..).symm, ⟨fun _ _ => rfl, t'⟩⟩
theorem sb_oldest (h : SB w wi L n room S) {k : Ky} {b : Bool} (hk : oldFK S = k) (hb : (oldF S).isSome = b) :
    Calls Try.prog 9 #[ptv L.b] wi fun e w' => e = .returned (.tuple #[kyV k, .bool b]) ∧ SB w w' L n room S ∧ Fr wi L w' L := by
  subst hk; subst hb
  obtain ⟨X, hx, e, hc, ht⟩ := id h
  subst e
  refine (tb_oldest hx).mono ?_
  rintro e w' ⟨rfl, hx', t'⟩
  rw [oldK_face, old_face, Option.isSome_map]
  exact ⟨rfl, h.step ⟨fun _ _ => rfl, t'⟩ hx' rfl, ⟨fun _ _ => rfl, t'⟩⟩
theorem sb_len (h : SB w wi L n room S) {m : Nat} (hm : S.length = m) :
    Calls Try.prog 11 #[ptv L.b] wi fun e w' => e = .returned (.int .i64 (m : Nat)) ∧ SB w w' L n room S ∧ Fr wi L w' L := by
  subst hm
  obtain ⟨X, hx, e, hc, ht⟩ := id h
  subst e
  refine (tb_len hx).mono ?_
  rintro e w' ⟨rfl, hx', t'⟩
  rw [List.length_map]
  exact ⟨rfl, h.step ⟨fun _ _ => rfl, t'⟩ hx' rfl, ⟨fun _ _ => rfl, t'⟩⟩
end
end Go.Proofs.Ytgclgmfmcgacdaa
