/- Proved: lemmas of one statement's proof, merged by program: what each part proves stands ahead of it. Conditions: those that the lemmas name. -/
import Derived.Test.YtedecminaopgaaaM3
import Derived.Lib.AppendZerosOnto
import Derived.Test.YtedecminaopgaaaM11
import Derived.Lib.MinMax

/- Plain lemmas on zeros that come in at the end of a slice which lies anywhere in a block of the call's own ('append(s, make(S, m)...)'). No condition beyond those that each lemma names. -/
namespace Go.Proofs.Ytedecminaopgaaa
open Go.ChangeShapes Go.WideShapes Go.ChangeAt Go.RowKit
set_option maxRecDepth 100000

theorem zeros_len (z : Array Value) (m : Nat) : (Builtin.zeroCells z m).toList.length = m * z.size := by simp [Builtin.zeroCells]
theorem run_append_no_zeros {P : Program} (w : World) (t tn ty e : TypeId) (i : TypeInfo) (kn : IntKind) (ht : P.underlying t = some (.slice e)) (htn : P.underlying tn = some (.int kn)) (hi : P.info? e = some i) (base : Option Addr) (sLen sCap : Nat) (hc : sLen ≤ sCap) :
    (Builtin.append_ #[t, tn] ty #[.slice base sLen sCap, .int .i64 0]).run P w = .ok (.slice base sLen sCap) w := by
  have hw : IntKind.i64.wrap 0 = 0 := by decide
  cases base <;> simp [Builtin.append_, run_underlying ht, run_underlying htn, sizeOf, typeInfo, hi, asInt, asIntOf, hw, hc, storeCells]
theorem run_append_room_zeros {P : Program} (w : World) (t tn ty e : TypeId) (i : TypeInfo) (z : Value) (kn : IntKind) (ht : P.underlying t = some (.slice e)) (htn : P.underlying tn = some (.int kn)) (hi : P.info? e = some i) (hz : i.zero = some z) (hsz : z.cells.size = i.size)
    (g o sLen sCap : Nat) (cur : Array Value) (hg : w.heap[g]? = some (.cells cur e (0, 0))) (m : Nat) (h0 : 0 < m) (hs : 0 < i.size) (hm : m ≤ 70000) (h48 : m * i.bytes ≤ 281474976710656) (h1 : ∀ u ∈ (Builtin.zeroCells z.cells m).toList, u.oneCell' = true)
    (hroom : sLen + m ≤ sCap) (hfit : o + sLen * i.size + m * i.size ≤ cur.size) :
    (Builtin.append_ #[t, tn] ty #[.slice (some ⟨g, o, none⟩) sLen sCap, .int .i64 m]).run P w =
      .ok (.slice (some ⟨g, o, none⟩) (sLen + m) sCap) (w.setRow g (cur.toList.take (o + sLen * i.size) ++ (Builtin.zeroCells z.cells m).toList ++ cur.toList.drop (o + sLen * i.size + m * i.size)).toArray) := by
  have hl := zeros_len z.cells m
  rw [hsz] at hl
  have hst := run_storeCells_at P g (o + sLen * i.size) e (Builtin.zeroCells z.cells m).toList 0 cur w hg (by rw [hl]; simpa using hfit) h1
  simp only [Nat.add_zero] at hst
  rw [hl] at hst
  have hw : IntKind.i64.wrap (m : Int) = m := by rw [IntKind.wrap_i64]; omega
  have h48i : ¬ (281474976710656 < (m : Int) * (i.bytes : Int)) := by
    rw [← Int.natCast_mul]
    omega
  have hneg : ¬ ((m : Int) < 0) := by omega
  have hm0 : m ≠ 0 := by omega
  have hns : ¬ (m * i.size = 0) := Nat.mul_ne_zero hm0 (by omega)
  simp [Builtin.append_, run_underlying ht, run_underlying htn, sizeOf, typeInfo, zeroValue, hi, hz, asInt, asIntOf, hw, hroom, hneg, hns, h48i, Addr.add_lit, hst]
section
variable {w : World} {r : Option Nat} {e : TypeId} {k n : Nat} {v : Value} {xs : List Value}
/-- m zeros more. -/
theorem Qu.zeros {t tn ty : TypeId} {z : Value} {bytes : Nat} {kn : IntKind} (ht : Try.prog.underlying t = some (.slice e)) (htn : Try.prog.underlying tn = some (.int kn)) (info : (Try.prog.info? e).map (fun i => (i.zero, i.size, i.bytes)) = some (some z, k, bytes)) (hzs : z.cells.size = k) (hk : 0 < k) (hby : bytes ≤ 1000)
    (one : ∀ m, ∀ u ∈ (Builtin.zeroCells z.cells m).toList, u.oneCell' = true) (h : Qu w r e k v n xs) {m : Nat} (hn : n + m ≤ 65536) :
    ∃ v' w' r', (Builtin.append_ #[t, tn] ty #[v, .int .i64 (m : Nat)]).run Try.prog w = .ok v' w' ∧ Qu w' r' e k v' (n + m) (xs ++ (Builtin.zeroCells z.cells m).toList) ∧ (r' = r ∨ ∃ g, r' = some g ∧ w.heap.size ≤ g) ∧ Tn (fun i => r = some i) w w' := by
  obtain ⟨i, hi, hz0, hz1, hz2⟩ := info_parts info
  have hcap : ∃ A cap, v = .slice A n cap ∧ n ≤ cap := by
    rcases h.2 with ⟨rfl, rfl, _⟩ | ⟨g, o, cap, cur, _, rfl, _, hc, _⟩
    · exact ⟨_, _, rfl, Nat.le_refl _⟩
    · exact ⟨_, _, rfl, hc⟩
  rcases Nat.eq_zero_or_pos m with rfl | h0
  · obtain ⟨A, cap, rfl, hc⟩ := hcap
    refine ⟨_, w, r, run_append_no_zeros w t tn ty e i kn ht htn hi A n cap hc, ?_, .inl rfl, Tn.refl _ _⟩
    have : (Builtin.zeroCells z.cells 0).toList = [] := List.eq_nil_of_length_eq_zero (by rw [zeros_len, Nat.zero_mul])
    rw [this, List.append_nil]
    exact h
  have hzl := zeros_len z.cells m
  rw [hzs] at hzl
  have hmb : m * bytes ≤ 281474976710656 := Nat.le_trans (Nat.mul_le_mul (by omega : m ≤ 70000) hby) (by decide)
  have hnb : (n + m) * bytes ≤ 140737488355328 := Nat.le_trans (Nat.mul_le_mul (by omega : n + m ≤ 70000) hby) (by decide)
  have grown : ∀ (A : Option Addr) (cap : Nat), v = .slice A n cap → cap < n + m → (Builtin.firstCells i.size n (.slice A n cap)).run Try.prog w.drew = .ok xs.toArray w.drew →
      ∃ v' w' r', (Builtin.append_ #[t, tn] ty #[v, .int .i64 (m : Nat)]).run Try.prog w = .ok v' w' ∧ Qu w' r' e k v' (n + m) (xs ++ (Builtin.zeroCells z.cells m).toList) ∧ (r' = r ∨ ∃ g, r' = some g ∧ w.heap.size ≤ g) ∧ Tn (fun i => r = some i) w w' := fun A cap hv hlt hold => by
    have hrun := Lib.run_append_grow_zeros (P := Try.prog) w t tn ty e i z .i64 kn ht htn hi hz0 A n cap xs hold m h0 (by omega) hlt (by omega) (by rw [hz2]; exact hmb) (growslice_fits hlt (by rw [hz2]; exact hnb))
    rw [← hv] at hrun
    have hge := grownCap_ge w (n + m) cap e
    have hle := grownCap_le_maxLen w (n + m) cap e (by unfold maxLen; omega)
    generalize grownCap w (n + m) cap e = G at hrun hge hle
    refine ⟨_, _, some w.heap.size, hrun, ⟨by rw [List.length_append, h.1, hzl, Nat.add_mul], .inr ⟨w.heap.size, 0, G, _, rfl, rfl, heap_alloc_new w.drew _, hge, hle, ?_, ?_⟩⟩, .inr ⟨_, rfl, Nat.le_refl _⟩, (Tn.refl _ w).drew.alloc _⟩
    · simp only [Array.size_append, size_zeroCells, hzs, List.size_toArray, h.1]
      rw [← Nat.add_mul, ← Nat.add_mul, Nat.zero_add]
      exact Nat.mul_le_mul_right k (by omega)
    · simp only [Array.toList_append, List.drop_zero]
      have e2 : (xs ++ (Builtin.zeroCells z.cells m).toList).length = (n + m) * k := by rw [List.length_append, h.1, hzl, Nat.add_mul]
      rw [← e2, List.take_left]
  rcases h.2 with ⟨hv, hn0, _⟩ | ⟨g, o, cap, cur, hr, hv, hg, q1, q2, q3, q4⟩
  · refine grown none 0 (by rw [hv, hn0]) (by omega) ?_
    have hx : xs = [] := List.eq_nil_of_length_eq_zero (by rw [h.1, hn0, Nat.zero_mul])
    rw [hx]
    exact run_firstCells_none w.drew i.size n n 0
  · have hcl : cur.toList.length = cur.size := Array.length_toList
    by_cases hroom : n + m ≤ cap
    · have hck : (n + m) * k ≤ cap * k := Nat.mul_le_mul_right k hroom
      rw [Nat.add_mul] at hck
      have hrun := run_append_room_zeros (P := Try.prog) w t tn ty e i z kn ht htn hi hz0 (by rw [hzs, hz1]) g o n cap cur hg m h0 (by omega) (by omega) (by rw [hz2]; exact hmb) (one m) hroom (by rw [hz1]; omega)
      rw [← hv, hz1] at hrun
      refine ⟨_, _, some g, hrun, ⟨by rw [List.length_append, h.1, hzl, Nat.add_mul], .inr ⟨g, o, cap, _, rfl, rfl, setRow_heap w g cur _ _ _ hg, hroom, q2, ?_, ?_⟩⟩, .inl hr.symm, ⟨rfl, rfl, rfl, by simp [World.setRow], fun j hj hn => setRow_other w g j _ (fun e => hn (by rw [hr, e]))⟩⟩
      · simp only [List.size_toArray, List.length_append, List.length_take, List.length_drop, hzl, hcl]
        omega
      · rw [← q4]
        have e1 : (cur.toList.take (o + n * k)).length = o + n * k := by rw [List.length_take, hcl]; omega
        rw [List.append_assoc, List.drop_append_of_le_length (by rw [e1]; omega), List.drop_take, show o + n * k - o = n * k by omega, ← List.append_assoc]
        have e2 : (List.take (n * k) (List.drop o cur.toList) ++ (Builtin.zeroCells z.cells m).toList).length = (n + m) * k := by
          rw [List.length_append, List.length_take, List.length_drop, hcl, hzl, Nat.add_mul]; omega
        rw [← e2, List.take_left]
    · refine grown (some ⟨g, o, none⟩) cap hv (by omega) ?_
      refine run_firstCells_some w.drew i.size n ⟨g, o, none⟩ n cap xs (by rw [h.1, hz1]) fun j u hu => ?_
      rw [Addr.add_lit]
      show w.cell? ⟨g, o + j, none⟩ = _
      rw [cell_of_row w g (o + j) cur _ (0, 0) hg]
      rw [← q4, List.getElem?_take] at hu
      split at hu
      · simpa using hu
      · cases hu
end
end Go.Proofs.Ytedecminaopgaaa

/- Proved: what Put of package order answers, of an order and of none. Conditions: those that the theorems name. -/
namespace Go.Proofs.Ytedecminaopgaaa
open Go.ChangeShapes Go.WideShapes Go.ChangeAt Go.RowKit

theorem zeros_text (m : Nat) : (Builtin.zeroCells (Value.string S0).cells m).toList = scells (List.replicate m S0) := by
  rw [scells_none]
  apply List.ext_getElem
  · rw [zeros_len, List.length_replicate, show (Value.string S0).cells.size = 1 from rfl, Nat.mul_one]
  · intro j h1 h2
    rw [List.getElem_replicate]
    simp [Builtin.zeroCells, show (Value.string S0).cells = #[Value.string S0] from rfl, Nat.mod_one]
theorem zeros_text_one (m : Nat) : ∀ u ∈ (Builtin.zeroCells (Value.string S0).cells m).toList, u.oneCell' = true := by
  rw [zeros_text]
  exact scells_one _
/-- as many more as are wanted, and the body at its place. -/
theorem put_own {w : World} {b : Nat} {B n : Int} {r : Option Nat} {v : Value} {L : List ByteArray} (h : Od w b B n r v L) (p : Nat) (hp : (p : Int) < n) (s : ByteArray) :
    ∃ w1 g o cap, (Builtin.append_ #[91, 3] 91 #[v, .int .i64 ((p + 1 - L.length : Nat) : Int)]).run Try.prog w = .ok (.slice (some ⟨g, o, none⟩) (max L.length (p + 1)) cap) w1 ∧
      max L.length (p + 1) ≤ cap ∧ At w1 b 93 [.int .u32 B, .int .i64 n, v] ∧
      At (w1.setCell ⟨b, 2, none⟩ (.slice (some ⟨g, o, none⟩) (max L.length (p + 1)) cap)) b 93 [.int .u32 B, .int .i64 n, .slice (some ⟨g, o, none⟩) (max L.length (p + 1)) cap] ∧
      (w1.setCell ⟨b, 2, none⟩ (.slice (some ⟨g, o, none⟩) (max L.length (p + 1)) cap)).frozen? ⟨g, o + p, none⟩ = false ∧ (∃ u, (w1.setCell ⟨b, 2, none⟩ (.slice (some ⟨g, o, none⟩) (max L.length (p + 1)) cap)).cell? ⟨g, o + p, none⟩ = some (.string u)) ∧
      ∃ r' v', Od ((w1.setCell ⟨b, 2, none⟩ (.slice (some ⟨g, o, none⟩) (max L.length (p + 1)) cap)).setCell ⟨g, o + p, none⟩ (.string s)) b B n r' v' (putR L p s) ∧ (r' = r ∨ ∃ g, r' = some g ∧ w.heap.size ≤ g) ∧ Tn (OdOwn b r) w ((w1.setCell ⟨b, 2, none⟩ (.slice (some ⟨g, o, none⟩) (max L.length (p + 1)) cap)).setCell ⟨g, o + p, none⟩ (.string s)) := by
  have h64 := h.n64
  have hh := h.high
  obtain ⟨m, hm⟩ : ∃ m, m = p + 1 - L.length := ⟨_, rfl⟩
  rw [← hm]
  have hmax : L.length + m = max L.length (p + 1) := by omega
  obtain ⟨v', w1, r', hrun, hq, hr', t1⟩ := h.row.zeros (t := 91) (tn := 3) (ty := 91) (m := m) Try.underlying91 Try.underlying3 Try.infoString rfl (by decide) (by decide) zeros_text_one (by omega)
  rw [zeros_text, ← scells_app, hmax] at hq
  have a1 := h.own.tn t1 (fun e => h.ne b e rfl)
  obtain ⟨g, o, cap, hrg, rfl, hglt, hcap, hx, hf⟩ := hq.head (by omega)
  have hne : g ≠ b := by
    rcases hr' with e | ⟨g', e, hg'⟩
    · exact h.ne g (e ▸ hrg)
    · rw [hrg] at e; injection e with e
      have := h.lt
      omega
  obtain ⟨V, hV⟩ : ∃ V, V = Value.slice (some ⟨g, o, none⟩) (max L.length (p + 1)) cap := ⟨_, rfl⟩
  rw [← hV] at hrun hq
  have t2 : Tn (fun i => i = b) w1 (w1.setCell ⟨b, 2, none⟩ V) := (Tn.refl (fun i => i = b) w1).set _ _ (fun _ => rfl)
  have a2 := a1.set_ 2 V
  have hq2 := hq.tn t2 (fun g' e => by rw [hrg] at e; injection e with e; rw [← e]; exact hne)
  rw [hV] at hq2
  have hq3 := hq2.set_ (j := p) (by omega) (.string s)
  rw [scells_set] at hq3
  obtain ⟨g2, o2, c2, hrg2, hv2, _, _, hx2, hf2⟩ := hq2.head (by omega)
  rw [hrg] at hrg2
  injection hrg2 with hrg2
  injection hv2 with hv2 _ _
  injection hv2 with hv2
  injection hv2 with _ ho2
  subst hrg2 ho2
  rw [← hV] at hq3 hx2 hf2
  have hpl : p < (L ++ List.replicate m S0).length := by rw [List.length_append, List.length_replicate]; omega
  have hlen : (putR L p s).length = max L.length (p + 1) := put_len L p s
  refine ⟨w1, g, o, cap, by rw [hrun, hV], hcap, a1, by rw [← hV]; exact a2, by rw [← hV]; exact hf2 _, ⟨_, by rw [← hV]; exact hx2 p _ (scells_at _ p hpl)⟩, r', V, ?_, ?_, ?_⟩
  · rw [← hV]
    refine ⟨a2.far (p := ⟨g, o + p, none⟩) (fun e => hne e.symm) _, ?_, ?_, h.u32, h.low, h.high, ?_⟩
    · show Qu _ _ _ _ _ (putR L p s).length (scells (putR L p s))
      rw [hlen, hV]
      unfold putR
      rw [← hm]
      rw [hV] at hq3
      exact hq3
    · intro g' e
      rw [hrg] at e; injection e with e
      rw [← e]; exact hne
    · rw [hlen]; have := h.few; omega
  · exact hr'
  · rw [← hV]
    refine ((t1.mono fun i _ e => .inr e).trans (t2.mono fun i _ e => .inl e)).trans' ((Tn.refl (fun i => i = g) _).set _ _ (fun _ => rfl)) fun i hi e => ?_
    rcases hr' with e' | ⟨g', e', hg'⟩
    · rw [e]; exact .inr (by rw [← e', hrg])
    · rw [hrg] at e'; injection e' with e'
      omega
set_option maxRecDepth 100000 in
set_option maxHeartbeats 1600000 in
theorem row_put_any (b : Nat) (B n : Int) (r : Option Nat) (v : Value) (L : List ByteArray) (p : Nat) (s : ByteArray) (w : World) (h : Od w b B n r v L) (hp : (p : Int) < n) :
    Calls Try.prog 66 #[.pointer (some ⟨b, 2, none⟩), .int .i64 (p : Nat), .string s] w fun e w' => ∃ r' v', e = .returned (.tuple #[]) ∧ Od w' b B n r' v' (putR L p s) ∧ (r' = r ∨ ∃ g, r' = some g ∧ w.heap.size ≤ g) ∧ Tn (OdOwn b r) w w' := by
  obtain ⟨w1, g, o, cap, hrun, hcap, a1, a2, hfz, ⟨u, hcl⟩, r', v', ho, hr', ht⟩ := put_own h p hp s
  have HE := Lib.hid (And.intro ho (And.intro hr' ht))
  obtain ⟨A, c, hv⟩ := h.form
  have c0 := h.own.cell 2 rfl
  have f0 := h.own.free 2
  have c1 := a1.cell 2 rfl
  have f1 := a1.free 2
  have c2 := a2.cell 2 rfl
  have hp64 : (p : Int) < 64 := by have := h.high; omega
  have hl64 : (L.length : Int) ≤ 64 := by have := h.n64; omega
  have hl0 : (0 : Int) ≤ (L.length : Int) := Int.natCast_nonneg _
  have hp0 : (0 : Int) ≤ (p : Int) := Int.natCast_nonneg _
  have hmax : max (0 : Int) ((p : Int) + 1 - (L.length : Int)) = ((p + 1 - L.length : Nat) : Int) := by omega
  have hpl : p < max L.length (p + 1) := by omega
  have hpl' : (p : Int) < ((max L.length (p + 1) : Nat) : Int) := by omega
  obtain ⟨N, hN⟩ : ∃ N, N = max L.length (p + 1) := ⟨_, rfl⟩
  rw [← hN] at hrun hcap hfz hcl c2 hpl hpl' HE
  obtain ⟨m, hm⟩ : ∃ m, m = p + 1 - L.length := ⟨_, rfl⟩
  rw [← hm] at hrun hmax
  have hm0 : (0 : Int) ≤ (m : Int) := Int.natCast_nonneg _
  have hm1 : (m : Int) ≤ 65 := by omega
  subst hv
  generalize L.length = l at *
  clear h a1 a2 ho hr' ht hm hN hp
  go_enter Try.func66, Try.ntmps66
  go_wp2_with (at_builtin; refine Lib.wpList_append_run _ rfl _ _ _ _ rfl _ _ rfl rfl _ _ hrun ?_)
  go_end0
  exact ⟨r', v', rfl, HE.out⟩
end Go.Proofs.Ytedecminaopgaaa
