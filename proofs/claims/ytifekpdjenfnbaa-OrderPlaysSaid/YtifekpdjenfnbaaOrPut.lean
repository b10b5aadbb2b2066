/- Proved: what Put of package order answers, of an order and of none. Conditions: those that the theorems name. -/
import Derived.Test.YtifekpdjenfnbaaOrGet
import Derived.Test.YtifekpdjenfnbaaQueZero
import Derived.Lib.MinMax
namespace Go.Proofs.Ytifekpdjenfnbaa
open Go.ChangeShapes Go.WideShapes Go.ChangeAt Go.RowKit

theorem zeros_text (m : Nat) : (Builtin.zeroCells (Value.string S0).cells m).toList = scells (List.replicate m S0) := by
  rw [scells_none]
  apply List.ext_getElem
  · rw [zeros_len, List.length_replicate, show (Value.string S0).cells.size = 1 from rfl, Nat.mul_one]
  · intro j h1 h2
    rw [List.getElem_replicate]
    simp [Builtin.zeroCells, show (Value.string S0).cells = #[Value.string S0] from rfl, Nat.mod_one]
theorem zeros_text_one (m : Nat) : ∀ u ∈ (Builtin.zeroCells (Value.string S0).cells m).toList, u.oneCell' = true := by
  rw [zeros_text]
  exact scells_one _
/-- as many more as are wanted, and the body at its place. -/
theorem put_own {w : World} {b : Nat} {B n : Int} {r : Option Nat} {v : Value} {L : List ByteArray} (h : Od w b B n r v L) (p : Nat) (hp : (p : Int) < n) (s : ByteArray) :
    ∃ w1 g o cap, (Builtin.append_ #[50, 3] 50 #[v, .int .i64 ((p + 1 - L.length : Nat) : Int)]).run Try.prog w = .ok (.slice (some ⟨g, o, none⟩) (max L.length (p + 1)) cap) w1 ∧
      max L.length (p + 1) ≤ cap ∧ At w1 b 52 [.int .u32 B, .int .i64 n, v] ∧
      At (w1.setCell ⟨b, 2, none⟩ (.slice (some ⟨g, o, none⟩) (max L.length (p + 1)) cap)) b 52 [.int .u32 B, .int .i64 n, .slice (some ⟨g, o, none⟩) (max L.length (p + 1)) cap] ∧
      (w1.setCell ⟨b, 2, none⟩ (.slice (some ⟨g, o, none⟩) (max L.length (p + 1)) cap)).frozen? ⟨g, o + p, none⟩ = false ∧ (∃ u, (w1.setCell ⟨b, 2, none⟩ (.slice (some ⟨g, o, none⟩) (max L.length (p + 1)) cap)).cell? ⟨g, o + p, none⟩ = some (.string u)) ∧
      ∃ r' v', Od ((w1.setCell ⟨b, 2, none⟩ (.slice (some ⟨g, o, none⟩) (max L.length (p + 1)) cap)).setCell ⟨g, o + p, none⟩ (.string s)) b B n r' v' (putR L p s) ∧ (r' = r ∨ ∃ g, r' = some g ∧ w.heap.size ≤ g) ∧ Tn (OdOwn b r) w ((w1.setCell ⟨b, 2, none⟩ (.slice (some ⟨g, o, none⟩) (max L.length (p + 1)) cap)).setCell ⟨g, o + p, none⟩ (.string s)) := by
  have h64 := h.n64
  have hh := h.high
  obtain ⟨m, hm⟩ : ∃ m, m = p + 1 - L.length := ⟨_, rfl⟩
  rw [← hm]
  have hmax : L.length + m = max L.length (p + 1) := by omega
  obtain ⟨v', w1, r', hrun, hq, hr', t1⟩ := h.row.zeros (t := 50) (tn := 3) (ty := 50) (m := m) Try.underlying50 Try.underlying3 Try.infoString rfl (by decide) (by decide) zeros_text_one (by omega)
  rw [zeros_text, ← scells_app, hmax] at hq
  have a1 := h.own.tn t1 (fun e => h.ne b e rfl)
  obtain ⟨g, o, cap, hrg, rfl, hglt, hcap, hx, hf⟩ := hq.head (by omega)
  have hne : g ≠ b := by
    rcases hr' with e | ⟨g', e, hg'⟩
    · exact h.ne g (e ▸ hrg)
    · rw [hrg] at e; injection e with e
      have := h.lt
      omega
  obtain ⟨V, hV⟩ : ∃ V, V = Value.slice (some ⟨g, o, none⟩) (max L.length (p + 1)) cap := ⟨_, rfl⟩
  rw [← hV] at hrun hq
  have t2 : Tn (fun i => i = b) w1 (w1.setCell ⟨b, 2, none⟩ V) := (Tn.refl (fun i => i = b) w1).set _ _ (fun _ => rfl)
  have a2 := a1.set_ 2 V
  have hq2 := hq.tn t2 (fun g' e => by rw [hrg] at e; injection e with e; rw [← e]; exact hne)
  rw [hV] at hq2
  have hq3 := hq2.set_ (j := p) (by omega) (.string s)
  rw [scells_set] at hq3
  obtain ⟨g2, o2, c2, hrg2, hv2, _, _, hx2, hf2⟩ := hq2.head (by omega)
  rw [hrg] at hrg2
  injection hrg2 with hrg2
  injection hv2 with hv2 _ _
  injection hv2 with hv2
  injection hv2 with _ ho2
  subst hrg2 ho2
  rw [← hV] at hq3 hx2 hf2
  have hpl : p < (L ++ List.replicate m S0).length := by rw [List.length_append, List.length_replicate]; omega
  have hlen : (putR L p s).length = max L.length (p + 1) := put_len L p s
  refine ⟨w1, g, o, cap, by rw [hrun, hV], hcap, a1, by rw [← hV]; exact a2, by rw [← hV]; exact hf2 _, ⟨_, by rw [← hV]; exact hx2 p _ (scells_at _ p hpl)⟩, r', V, ?_, ?_, ?_⟩
  · rw [← hV]
    refine ⟨a2.far (p := ⟨g, o + p, none⟩) (fun e => hne e.symm) _, ?_, ?_, h.u32, h.low, h.high, ?_⟩
    · show Qu _ _ _ _ _ (putR L p s).length (scells (putR L p s))
      rw [hlen, hV]
      unfold putR
      rw [← hm]
      rw [hV] at hq3
      exact hq3
    · intro g' e
      rw [hrg] at e; injection e with e
      rw [← e]; exact hne
    · rw [hlen]; have := h.few; omega
  · exact hr'
  · rw [← hV]
    refine ((t1.mono fun i _ e => .inr e).trans (t2.mono fun i _ e => .inl e)).trans' ((Tn.refl (fun i => i = g) _).set _ _ (fun _ => rfl)) fun i hi e => ?_
    rcases hr' with e' | ⟨g', e', hg'⟩
    · rw [e]; exact .inr (by rw [← e', hrg])
    · rw [hrg] at e'; injection e' with e'
      omega
set_option maxRecDepth 100000 in
set_option maxHeartbeats 1600000 in
theorem row_put_any (b : Nat) (B n : Int) (r : Option Nat) (v : Value) (L : List ByteArray) (p : Nat) (s : ByteArray) (w : World) (h : Od w b B n r v L) (hp : (p : Int) < n) :
    Calls Try.prog 20 #[.pointer (some ⟨b, 2, none⟩), .int .i64 (p : Nat), .string s] w fun e w' => ∃ r' v', e = .returned (.tuple #[]) ∧ Od w' b B n r' v' (putR L p s) ∧ (r' = r ∨ ∃ g, r' = some g ∧ w.heap.size ≤ g) ∧ Tn (OdOwn b r) w w' := by
  obtain ⟨w1, g, o, cap, hrun, hcap, a1, a2, hfz, ⟨u, hcl⟩, r', v', ho, hr', ht⟩ := put_own h p hp s
  have HE := Lib.hid (And.intro ho (And.intro hr' ht))
  obtain ⟨A, c, hv⟩ := h.form
  have c0 := h.own.cell 2 rfl
  have f0 := h.own.free 2
  have c1 := a1.cell 2 rfl
  have f1 := a1.free 2
  have c2 := a2.cell 2 rfl
  have hp64 : (p : Int) < 64 := by have := h.high; omega
  have hl64 : (L.length : Int) ≤ 64 := by have := h.n64; omega
  have hl0 : (0 : Int) ≤ (L.length : Int) := Int.natCast_nonneg _
  have hp0 : (0 : Int) ≤ (p : Int) := Int.natCast_nonneg _
  have hmax : max (0 : Int) ((p : Int) + 1 - (L.length : Int)) = ((p + 1 - L.length : Nat) : Int) := by omega
  have hpl : p < max L.length (p + 1) := by omega
  have hpl' : (p : Int) < ((max L.length (p + 1) : Nat) : Int) := by omega
  obtain ⟨N, hN⟩ : ∃ N, N = max L.length (p + 1) := ⟨_, rfl⟩
  rw [← hN] at hrun hcap hfz hcl c2 hpl hpl' HE
  obtain ⟨m, hm⟩ : ∃ m, m = p + 1 - L.length := ⟨_, rfl⟩
  rw [← hm] at hrun hmax
  have hm0 : (0 : Int) ≤ (m : Int) := Int.natCast_nonneg _
  have hm1 : (m : Int) ≤ 65 := by omega
  subst hv
  generalize L.length = l at *
  clear h a1 a2 ho hr' ht hm hN hp
  go_enter Try.func20, Try.ntmps20
  go_wp2_with (at_builtin; refine Lib.wpList_append_run _ rfl _ _ _ _ rfl _ _ rfl rfl _ _ hrun ?_)
  go_end0
  exact ⟨r', v', rfl, HE.out⟩
end Go.Proofs.Ytifekpdjenfnbaa
