/- Proved: what slices.DeleteFunc leaves of a row of pointers where one pointer goes, by the kit's contract; what leave leaves. Conditions: those that the theorems name. -/
import Derived.Test.YtplbdeaoeocgkaaDrRep
import Derived.Test.YtplbdeaoeocgkaaDelShelf
import Derived.Lib.OwnBridge
import Derived.LaidEqlPtr
namespace Go.Proofs.Ytplbdeaoeocgkaa
open Go.ChangeShapes Go.WideShapes Go.ChangeAt Go.RowKit

def encP : Option Nat → Value
  | none => .pointer none
  | some p => ptv p
def isP (p : Nat) (x : Option Nat) : Bool := decide (x = some p)
/-- it is none, or points at a queue. -/
abbrev Lv (w : World) (o : Option Nat) : Prop := ∀ q, o = some q → ∃ xs, At w q 66 xs
abbrev Lp (w : World) := {o : Option Nat // Lv w o}
instance (w : World) : Inhabited (Lp w) := ⟨⟨none, fun _ e => nomatch e⟩⟩
def encL (w : World) (x : Lp w) : Value := encP x.1
theorem encL_one (w : World) : OneCell (encL w) := fun x => by
  unfold encL
  cases x.1 <;> rfl
theorem infoQ : ∃ j, Try.prog.info? 66 = some j ∧ j.size ≠ 0 := by
  have h : (Try.prog.info? 66).map (fun i => i.size) = some 4 := by kernel_rfl
  cases hi : Try.prog.info? 66 with
  | none => rw [hi] at h; cases h
  | some j =>
    rw [hi] at h
    simp at h
    exact ⟨j, rfl, by omega⟩
set_option maxRecDepth 100000 in
theorem dr_is (x : Option Nat) (p bx : Nat) (W : World) (h : W.cell? ⟨bx, 0, none⟩ = some (ptv p)) (hx : Lv W x) (hp : ∃ xs, At W p 66 xs) :
    Calls Try.prog 32 #[encP x, .pointer (some ⟨bx, 0, none⟩)] W fun e w' => e = .returned (.bool (isP p x)) ∧ W = w' := by
  unfold isP
  obtain ⟨j, hj, hsz⟩ := infoQ
  have hu : Try.prog.underlying 63 = some (.pointer 66) := Try.underlying63
  cases x with
  | none =>
    show Calls Try.prog 32 #[.pointer none, .pointer (some ⟨bx, 0, none⟩)] W _
    have he : (binOp .eql 63 (.pointer none) (ptv p)).run Try.prog W = .ok (.bool false) W := by
      have h : ∀ d : Nat, (Op.equalIn (d + 1) 63 (.pointer none) (ptv p)).run Try.prog W = .ok false W := fun d => by simp [Op.equalIn, run_underlying hu]
      simp only [binOp]
      simp [Op.equal, Op.maxDepth, h 9999]
    clear hx hp hj hsz hu
    go_enter Try.func32, Try.ntmps32
    go_wp2_with fail
    go_ret
    exact ⟨rfl, rfl⟩
  | some q =>
    show Calls Try.prog 32 #[ptv q, .pointer (some ⟨bx, 0, none⟩)] W _
    obtain ⟨xs, hq⟩ := hx q rfl
    obtain ⟨ys, hp⟩ := hp
    by_cases e : q = p
    · subst e
      have he := run_eql_ptr_same (P := Try.prog) W ⟨q, 0, none⟩ hu hj
      clear hx hp hq hj hsz hu
      go_enter Try.func32, Try.ntmps32
      go_wp2_with fail
      go_ret
      exact ⟨by simp, rfl⟩
    · have he := run_eql_ptr_other (P := Try.prog) W (a := ⟨q, 0, none⟩) (b := ⟨p, 0, none⟩) hu hj hsz (by intro c; injection c with c; exact e c) hq hp
      have hd : (decide (some q = some p)) = false := by simp [e]
      rw [hd]
      clear hx hp hq hj hsz hu e hd
      go_enter Try.func32, Try.ntmps32
      go_wp2_with fail
      go_ret
      exact ⟨rfl, rfl⟩
def keepP (p : Nat) (ps : List Nat) : List Nat := ps.filter fun x => !decide (x = p)
theorem keepP_len (p : Nat) (ps : List Nat) : (keepP p ps).length ≤ ps.length := List.length_filter_le _ _
def liveL (w : World) (ps : List Nat) (h : ∀ p ∈ ps, ∃ xs, At w p 66 xs) : List (Lp w) :=
  ps.pmap (fun p hp => ⟨some p, fun q e => by injection e with e; rw [← e]; exact hp⟩) h
theorem liveL_enc {w : World} {ps : List Nat} (h : ∀ p ∈ ps, ∃ xs, At w p 66 xs) : (liveL w ps h).map (encL w) = ps.map ptv := by
  unfold liveL
  rw [List.map_pmap]
  exact List.pmap_eq_map h
theorem liveL_keep {w : World} (p : Nat) : ∀ {ps : List Nat} (h : ∀ p ∈ ps, ∃ xs, At w p 66 xs), (((liveL w ps h).filter fun x => !isP p x.1).map (encL w)) = (keepP p ps).map ptv
  | [], _ => rfl
  | a :: r, h => by
    have ih := liveL_keep p (ps := r) fun x hx => h x (List.mem_cons_of_mem _ hx)
    unfold keepP at ih ⊢
    unfold liveL at ih ⊢
    rw [List.pmap_cons]
    by_cases e : a = p
    · rw [List.filter_cons_of_neg (by simp [isP, e]), List.filter_cons_of_neg (by simp [e]), ih]
    · rw [List.filter_cons_of_pos (by simp [isP, e]), List.filter_cons_of_pos (by simp [e]), List.map_cons, List.map_cons, ih]; rfl
theorem tn_putRow {α : Type} [Inhabited α] {c : Nat → Prop} {w : World} {enc : α → Value} {g q : Nat} {d : Array α} (hg : c g) : Tn c w (Sort.putRow enc (Sort.ahead w q) g 0 d) :=
  ⟨rfl, rfl, rfl, by simp [Sort.putRow, Sort.mapBlock, Sort.ahead], fun k _ hn => by
    have : g ≠ k := fun e => hn (e ▸ hg)
    simp [Sort.putRow, Sort.mapBlock, Sort.ahead, Array.getElem?_modify, this]⟩
set_option maxRecDepth 100000 in
set_option maxHeartbeats 800000 in
theorem dr_delete {w : World} {c : Nat → Prop} {rv : Value} {ps : List Nat} (hr : Rr w c rv ps) (p bx : Nat) (hbx : At w bx 63 [ptv p]) (hcb : ¬ c bx) (hn : ps.length ≤ 65536)
    (hl : ∀ p ∈ ps, ∃ xs, At w p 66 xs) (hp : ∃ xs, At w p 66 xs) :
    Calls Try.prog 31 #[rv, .func (.func 32) #[] #[.pointer (some ⟨bx, 0, none⟩)]] w fun e w' => ∃ rv', e = .returned rv' ∧ Rr w' c rv' (keepP p ps) ∧ Tn c w w' := by
  by_cases hv : rv = .slice none 0 0
  · subst hv
    have h0 : ps = [] := by
      rcases hr.1.2 with ⟨_, h⟩ | ⟨g, cap, cur, e, _⟩
      · exact List.eq_nil_of_length_eq_zero h
      · cases e
    subst h0
    have HI : Calls Try.prog 34 #[.slice none 0 0, .func (.func 32) #[] #[.pointer (some ⟨bx, 0, none⟩)]] w fun e w' => e = .returned (.int .i64 (-1)) ∧ w = w' := by
      clear hbx hr hcb hn hl hp
      go_enter Try.func34, Try.ntmps34
      go_wp2_with fail
      go_loop [8] (fun i => i = .int .i64 0) (fun _ => 0)
      case atStart => rfl
      case round =>
        subst hrel
        go_wp2_with fail
        go_ret
        exact ⟨rfl, rfl⟩
    have HI' := Lib.hid HI
    clear hbx hr hcb hn HI hl hp
    go_enter Try.func31, Try.ntmps31
    go_wp2_with fail
    refine HI'.out.mono ?_; rintro e w1 ⟨rfl, rfl⟩
    go_wp2_with fail
    go_ret
    exact ⟨_, rfl, Rr.nil _ _, Tn.refl _ _⟩
  · have hown := hr.1
    rw [← liveL_enc hl] at hown
    obtain ⟨g, cap, rfl, _, hlt, hle, hmax, hlen, hH⟩ := Lib.holds_of_ownsRow hown hv
    have hcg : c g := hr.2 g rfl
    have hne : bx ≠ g := fun e => hcb (e ▸ hcg)
    obtain ⟨cur, hgc⟩ : ∃ cur, w.heap[g]? = some (.cells cur 63 (0, 0)) := by
      rcases hr.1.2 with ⟨e, _⟩ | ⟨g', cap', cur, e, _, hg', _⟩
      · exact absurd e hv
      · injection e with e1
        injection e1 with e1
        injection e1 with e1
        subst e1
        exact ⟨cur, hg'⟩
    have hsz : (liveL w ps hl).toArray.size = ps.length := by rw [List.size_toArray]; exact hlen
    have hbc := hbx.cell 0 rfl
    have hbl := hbx.lt
    have far : ∀ {q xs}, At w q 66 xs → ∀ n (os : Array Obj) (dk : Array (Lp w)), At (Sort.grow (Sort.putRow (encL w) (Sort.ahead w n) g 0 dk) os) q 66 xs := fun {q xs} hq n os dk => by
      have hqg : q ≠ g := by
        intro e
        subst e
        rw [show w.heap[q]? = some (.cells xs.toArray 66 (0, 0)) from hq] at hgc
        injection hgc with hgc
        injection hgc with _ hgc
        revert hgc; decide
      have h1 : At (Sort.putRow (encL w) (Sort.ahead w n) g 0 dk) q 66 xs := hq.tn (tn_putRow (c := fun i => i = g) rfl) hqg
      exact h1.block (Sort.heap_grow_old _ os h1.lt)
    have hc := AnyE.slices_DeleteFunc (P := Try.prog) (ρ := Try.delDr_ren) Try.delDr (encL w) (encL_one w) (fun x => isP p x.1) 32 #[.pointer (some ⟨bx, 0, none⟩)] (enters_of Try.func32 (by kernel_rfl) rfl) default (fun w => pt_zero w) g 0 cap (liveL w ps hl).toArray w
      (fun W x hb => (dr_is x.1 p bx W (by rw [hb.cell (p := ⟨bx, 0, none⟩) hbl]; exact hbc) (fun q e => by obtain ⟨xs, h⟩ := x.2 q e; exact ⟨xs, h.below hb h.lt⟩) (by obtain ⟨xs, h⟩ := hp; exact ⟨xs, h.below hb h.lt⟩)).mono fun e w' ⟨h1, h2⟩ => ⟨h1, 0, by rw [← h2]; rfl⟩)
      (fun n os dk x hs => (dr_is x.1 p bx _ (by
        unfold sortWorld
        rw [Sort.cell?_grow _ os _ (by simpa [Sort.putRow, Sort.mapBlock, Sort.ahead] using hbl), Sort.cell?_putRow_other _ _ _ _ _ _ (Or.inl hne)]
        exact hbc) (fun q e => by obtain ⟨xs, h⟩ := x.2 q e; exact ⟨xs, far h _ _ _⟩) (by obtain ⟨xs, h⟩ := hp; exact ⟨xs, far h _ _ _⟩)).mono fun e w' ⟨h1, h2⟩ => ⟨h1, 0, by rw [← h2]; rfl⟩)
      hH (by rw [hsz]; omega) (by rw [hsz]; exact hle)
    rw [hsz] at hc
    refine hc.mono ?_
    rintro e w' ⟨rfl, q, rfl⟩
    rw [List.toList_toArray]
    have hkp := liveL_keep p hl
    have hkn : ((liveL w ps hl).filter fun x => !isP p x.1).length = (keepP p ps).length := by
      have := congrArg List.length hkp
      rwa [List.length_map, List.length_map] at this
    generalize ((liveL w ps hl).filter fun x => !isP p x.1) = ys at *
    have hkl := keepP_len p ps
    have hl2 : (ys ++ List.replicate (ps.length - ys.length) (default : Lp w)).length = ps.length := by
      rw [List.length_append, List.length_replicate]; omega
    have ho := Lib.ownsRow_putRow (q := q) (k := (keepP p ps).length) hown hl2 hkl
    rw [List.take_left' hkn, hkp] at ho
    refine ⟨_, rfl, ⟨?_, fun g' e' => ?_⟩, tn_putRow hcg⟩
    · rw [hkn]; rw [hkn] at ho; exact ho
    · simp [Value.ownBlock] at e'; rw [← e']; exact hcg
end Go.Proofs.Ytplbdeaoeocgkaa
