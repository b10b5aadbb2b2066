/- Proved: lemmas of one statement's proof, merged by program: what each part proves stands ahead of it. Conditions: those that the lemmas name. -/
import Derived.Test.YtgclgmfmcgacdaaM6
import Derived.Test.YtgclgmfmcgacdaaM3

/- Plain lemmas on a table in memory. No condition beyond those that each lemma names. -/
namespace Go.Proofs.Ytgclgmfmcgacdaa
open Go.ChangeShapes Go.WideShapes Go.ChangeAt Go.RowKit

/-! ### the line, as functions -/
def upd {α : Type} (f : Nat → α) (a : Nat) (v : α) : Nat → α := fun q => if q = a then v else f q
theorem upd_same {α : Type} (f : Nat → α) (a : Nat) (v : α) : upd f a v a = v := if_pos rfl
theorem upd_other {α : Type} (f : Nat → α) {a q : Nat} (v : α) (h : q ≠ a) : upd f a v q = f q := if_neg h
def lst : Nat → List Nat → Nat
  | s, [] => s
  | _, b :: r => lst b r
theorem lst_mem (s : Nat) (U : List Nat) : lst s U = s ∨ lst s U ∈ U := by
  induction U generalizing s with
  | nil => exact .inl rfl
  | cons b r ih =>
    rcases ih b with h | h
    · exact .inr (by show lst b r ∈ _; rw [h]; simp)
    · exact .inr (List.mem_cons_of_mem _ h)
theorem Ch.keep {ah bh ah' bh' : Nat → Option Nat} {s z : Nat} {U : List Nat} (h : Ch ah bh s U z) (ha : ∀ q, q = z ∨ q ∈ U → ah' q = ah q) (hb : ∀ q, q = s ∨ q ∈ U → bh' q = bh q) : Ch ah' bh' s U z := by
  induction U generalizing s with
  | nil => exact ⟨by rw [hb s (.inl rfl)]; exact h.1, by rw [ha z (.inl rfl)]; exact h.2⟩
  | cons b r ih =>
    refine ⟨⟨by rw [hb s (.inl rfl)]; exact h.1.1, by rw [ha b (.inr (by simp))]; exact h.1.2⟩, ih h.2 (fun q hq => ha q ?_) (fun q hq => hb q (.inr ?_))⟩
    · rcases hq with e | e
      · exact .inl e
      · exact .inr (List.mem_cons_of_mem _ e)
    · rcases hq with e | e
      · rw [e]; simp
      · exact List.mem_cons_of_mem _ e
theorem Ch.last {ah bh : Nat → Option Nat} {s z : Nat} {U : List Nat} (h : Ch ah bh s U z) : ah z = some (lst s U) ∧ bh (lst s U) = some z := by
  induction U generalizing s with
  | nil => exact ⟨h.2, h.1⟩
  | cons b r ih => exact ih h.2
theorem Ch.head {ah bh : Nat → Option Nat} {s z : Nat} {U : List Nat} (h : Ch ah bh s U z) : bh s = some (U.headD z) := by
  cases U with
  | nil => exact h.1
  | cons b r => exact h.1.1
theorem Ch.split {ah bh : Nat → Option Nat} {s z p : Nat} {A B : List Nat} : Ch ah bh s (A ++ p :: B) z ↔ Ch ah bh s A p ∧ Ch ah bh p B z := by
  induction A generalizing s with
  | nil => exact Iff.rfl
  | cons b r ih =>
    show (_ ∧ Ch ah bh b (r ++ p :: B) z) ↔ _
    rw [ih]
    exact ⟨fun ⟨a, b, c⟩ => ⟨⟨a, b⟩, c⟩, fun ⟨⟨a, b⟩, c⟩ => ⟨a, b, c⟩⟩
/-- the last one's neighbour is another one. -/
theorem Ch.turn {ah bh : Nat → Option Nat} {s p b : Nat} {A : List Nat} (h : Ch ah bh s A p) (hn : (s :: A).Nodup) (hb : b ∉ A) : Ch (upd ah b (some (lst s A))) (upd bh (lst s A) (some b)) s A b := by
  induction A generalizing s with
  | nil => exact ⟨upd_same .., upd_same ..⟩
  | cons x r ih =>
    obtain ⟨h1, h2⟩ := List.nodup_cons.1 hn
    have hs : s ≠ lst x r := fun e => by
      rcases lst_mem x r with f | f
      · exact h1 (by rw [e, f]; simp)
      · exact h1 (by rw [e]; exact List.mem_cons_of_mem _ f)
    refine ⟨⟨?_, ?_⟩, ih h.2 h2 (fun e => hb (List.mem_cons_of_mem _ e))⟩
    · show upd bh (lst x r) (some b) s = _
      rw [upd_other _ _ hs]; exact h.1.1
    · rw [upd_other _ _ (fun e => hb (by rw [← e]; simp))]; exact h.1.2
/-- one more at the end. -/
theorem Ch.push {ah bh : Nat → Option Nat} {z p : Nat} {U : List Nat} (h : Ch ah bh z U z) (hn : (z :: U).Nodup) (hp : p ∉ z :: U) :
    Ch (upd (upd ah p (some (lst z U))) z (some p)) (upd (upd bh p (some z)) (lst z U) (some p)) z (U ++ [p]) z := by
  have hpz : p ≠ z := fun e => hp (by rw [e]; simp)
  have hpU : p ∉ U := fun e => hp (List.mem_cons_of_mem _ e)
  have hzU := (List.nodup_cons.1 hn).1
  have hl : lst z U ≠ p := fun e => by
    rcases lst_mem z U with f | f
    · exact hpz (e.symm.trans f)
    · exact hpU (e ▸ f)
  rw [Ch.split]
  refine ⟨(h.turn hn hpU).keep (fun q hq => ?_) (fun q hq => ?_), ?_, ?_⟩
  · by_cases e : q = p
    · subst e; rw [upd_other _ _ hpz]
    · have hz : q ≠ z := fun f => by rcases hq with g | g; exact e g; exact hzU (f ▸ g)
      rw [upd_other _ _ hz]
  · have e : q ≠ p := fun e => by rcases hq with g | g; exact hpz (e.symm.trans g); exact hpU (e ▸ g)
    unfold upd
    rw [if_neg e]
  · rw [upd_other _ _ hl.symm, upd_same]
  · rw [upd_same]
/-- one less. -/
theorem Ch.drop {ah bh : Nat → Option Nat} {z p : Nat} {A B : List Nat} (h : Ch ah bh z (A ++ p :: B) z) (hn : (z :: (A ++ p :: B)).Nodup) :
    ah p = some (lst z A) ∧ bh p = some (B.headD z) ∧ lst z A ≠ p ∧ B.headD z ≠ p ∧
    Ch (fun q => if q = p then none else if q = B.headD z then some (lst z A) else ah q) (fun q => if q = p then none else if q = lst z A then some (B.headD z) else bh q) z (A ++ B) z := by
  obtain ⟨h1, h2⟩ := Ch.split.1 h
  obtain ⟨hz, hn2⟩ := List.nodup_cons.1 hn
  obtain ⟨nA, nB, nAB⟩ := List.nodup_append.1 hn2
  obtain ⟨npB, nB'⟩ := List.nodup_cons.1 nB
  have hpz : p ≠ z := fun e => hz (by rw [← e]; simp)
  have hzA : z ∉ A := fun e => hz (List.mem_append_left _ e)
  have hzB : z ∉ B := fun e => hz (List.mem_append_right _ (List.mem_cons_of_mem _ e))
  have hpA : p ∉ A := fun e => nAB p e p (by simp) rfl
  have hlA : lst z A ≠ p := fun e => by
    rcases lst_mem z A with f | f
    · exact hpz (e.symm.trans f)
    · exact hpA (e ▸ f)
  have hhB : B.headD z ≠ p := fun e => by
    cases B with
    | nil => exact hpz e.symm
    | cons b r => exact npB (by rw [← e]; simp)
  have nzA : (z :: A).Nodup := List.nodup_cons.2 ⟨hzA, nA⟩
  have far : ∀ q, q ∈ A → q ∈ B → False := fun q a b => nAB q a q (List.mem_cons_of_mem _ b) rfl
  have hlB : lst z A ∉ B := fun e => by
    rcases lst_mem z A with f | f
    · exact hzB (f ▸ e)
    · exact far _ f e
  refine ⟨h1.last.1, h2.head, hlA, hhB, ?_⟩
  cases B with
  | nil =>
    rw [List.append_nil]
    refine (h1.turn nzA hzA).keep (fun q hq => ?_) (fun q hq => ?_)
    · have e : q ≠ p := fun e => by rcases hq with g | g; exact hpz (e.symm.trans g); exact hpA (e ▸ g)
      show (if q = p then none else _) = _
      rw [if_neg e]; rfl
    · have e : q ≠ p := fun e => by rcases hq with g | g; exact hpz (e.symm.trans g); exact hpA (e ▸ g)
      show (if q = p then none else _) = _
      rw [if_neg e]; rfl
  | cons b r =>
    rw [Ch.split]
    have hbA : b ∉ A := fun e => far b e (by simp)
    have hbz : b ≠ z := fun e => hzB (by rw [← e]; simp)
    have hbr := (List.nodup_cons.1 nB').1
    constructor
    · refine (h1.turn nzA hbA).keep (fun q hq => ?_) (fun q hq => ?_)
      · have e : q ≠ p := fun e => by rcases hq with g | g; exact hhB (g.symm.trans e); exact hpA (e ▸ g)
        show (if q = p then none else _) = _
        rw [if_neg e]; rfl
      · have e : q ≠ p := fun e => by rcases hq with g | g; exact hpz (e.symm.trans g); exact hpA (e ▸ g)
        show (if q = p then none else _) = _
        rw [if_neg e]; rfl
    · refine h2.2.keep (fun q hq => ?_) (fun q hq => ?_)
      · have e : q ≠ p := fun e => by rcases hq with g | g; exact hpz (e.symm.trans g); exact npB (by rw [← e]; exact List.mem_cons_of_mem _ g)
        have e' : q ≠ b := fun e => by rcases hq with g | g; exact hbz (e.symm.trans g); exact hbr (e ▸ g)
        show (if q = p then none else if q = b then _ else _) = _
        rw [if_neg e, if_neg e']
      · have hm : q ∈ b :: r := by rcases hq with g | g; (rw [g]; simp); exact List.mem_cons_of_mem _ g
        have e : q ≠ p := fun e => npB (e ▸ hm)
        have e' : q ≠ lst z A := fun e => hlB (e ▸ hm)
        show (if q = p then none else if q = _ then _ else _) = _
        rw [if_neg e, if_neg e']

/-! ### entries in memory -/
def ecells (k : Ky) (need : Nat) (s : ByteArray) (v : Value) (a b : Option Nat) : List Value := [.int .i64 k.1, .int .u32 k.2, .int .i64 need, .string s, v, ptO a, ptO b]
/-- q is an entry, or the line's ends, with these neighbours. -/
def Nd (w : World) (q : Nat) (k : Ky) (need : Nat) (s : ByteArray) (v : Value) (a b : Option Nat) : Prop := At w q 95 (ecells k need s v a b)
theorem Nd.tn {c : Nat → Prop} {w w' : World} {q need : Nat} {k : Ky} {s : ByteArray} {v : Value} {a b : Option Nat} (h : Nd w q k need s v a b) (t : Tn c w w') (hc : ¬ c q) : Nd w' q k need s v a b := At.tn h t hc
theorem Nd.setA {w : World} {q need : Nat} {k : Ky} {s : ByteArray} {v : Value} {a b : Option Nat} (h : Nd w q k need s v a b) (x : Nat) (o : Option Nat) : Nd (w.setCell ⟨x, 5, none⟩ (ptO o)) q k need s v (if q = x then o else a) b := by
  by_cases e : q = x
  · subst e; rw [if_pos rfl]; exact At.set_ h 5 _
  · rw [if_neg e]; exact At.far h e _
theorem Nd.setB {w : World} {q need : Nat} {k : Ky} {s : ByteArray} {v : Value} {a b : Option Nat} (h : Nd w q k need s v a b) (x : Nat) (o : Option Nat) : Nd (w.setCell ⟨x, 6, none⟩ (ptO o)) q k need s v a (if q = x then o else b) := by
  by_cases e : q = x
  · subst e; rw [if_pos rfl]; exact At.set_ h 6 _
  · rw [if_neg e]; exact At.far h e _
/-- where a table lies: its block, its parts', the line's ends', the maps', and whose each block is. -/
structure Ly where
  b : Nat
  gp : Nat
  z : Nat
  mp : Nat → Nat
  col : Nat → Int
structure Er (w : World) (L : Ly) (ah bh : Nat → Option Nat) (e : En) : Prop where
  col : L.col e.p = 4
  mem : ∃ s v, Nd w e.p e.k e.need s v (ah e.p) (bh e.p) ∧ Idx s e.l ∧ Sr w (fun g => L.col g = 1000 + e.p) v (e.l.map (·.2))
theorem Er.lt {w : World} {L : Ly} {ah bh : Nat → Option Nat} {e : En} (h : Er w L ah bh e) : e.p < w.heap.size := by
  obtain ⟨s, v, h, _⟩ := h.mem
  exact At.lt h
theorem Er.tn {w w' : World} {L : Ly} {ah bh : Nat → Option Nat} {e : En} {c : Nat → Prop} (h : Er w L ah bh e) (t : Tn c w w') (hc : ∀ g, g < w.heap.size → c g → L.col g ≠ 4 ∧ L.col g ≠ 1000 + e.p) : Er w' L ah bh e := by
  have hl := h.lt
  obtain ⟨s, v, h1, h2, h3⟩ := h.mem
  exact ⟨h.col, s, v, h1.tn t (fun f => (hc _ hl f).1 h.col), h2, h3.tn t (fun g hg f k => (hc g hg k).2 f)⟩

/-! ### parts in memory -/
def pcells (mp : Nat → Nat) (sp : Nat → Int) : Nat → List Value
  | 0 => []
  | n + 1 => pcells mp sp n ++ [.int .i32 (sp n), .int .u32 0, .map (some (mp n))]
theorem pcells_len (mp : Nat → Nat) (sp : Nat → Int) (n : Nat) : (pcells mp sp n).length = n * 3 := by
  induction n with
  | zero => rfl
  | succ n ih =>
    rw [show pcells mp sp (n + 1) = pcells mp sp n ++ [.int .i32 (sp n), .int .u32 0, .map (some (mp n))] from rfl]; rw [List.length_append, ih]; simp; omega
theorem pcells_at (mp : Nat → Nat) (sp : Nat → Int) {n j : Nat} (h : j < n) : (pcells mp sp n)[j * 3]? = some (.int .i32 (sp j)) ∧ (pcells mp sp n)[j * 3 + 1]? = some (.int .u32 0) ∧ (pcells mp sp n)[j * 3 + 2]? = some (.map (some (mp j))) := by
  induction n with
  | zero => omega
  | succ n ih =>
    rw [show pcells mp sp (n + 1) = pcells mp sp n ++ [.int .i32 (sp n), .int .u32 0, .map (some (mp n))] from rfl]
    by_cases e : j = n
    · subst e
      rw [List.getElem?_append_right (by rw [pcells_len]; omega), List.getElem?_append_right (by rw [pcells_len]; omega), List.getElem?_append_right (by rw [pcells_len]; omega), pcells_len]
      rw [show j * 3 - j * 3 = 0 by omega, show j * 3 + 1 - j * 3 = 1 by omega, show j * 3 + 2 - j * 3 = 2 by omega]
      exact ⟨rfl, rfl, rfl⟩
    · rw [List.getElem?_append_left (by rw [pcells_len]; omega), List.getElem?_append_left (by rw [pcells_len]; omega), List.getElem?_append_left (by rw [pcells_len]; omega)]
      exact ih (by omega)
theorem pcells_same (mp : Nat → Nat) {sp sp' : Nat → Int} {n : Nat} (h : ∀ j, j < n → sp j = sp' j) : pcells mp sp n = pcells mp sp' n := by
  induction n with
  | zero => rfl
  | succ n ih =>
    rw [show pcells mp sp (n + 1) = pcells mp sp n ++ [.int .i32 (sp n), .int .u32 0, .map (some (mp n))] from rfl, show pcells mp sp' (n + 1) = pcells mp sp' n ++ [.int .i32 (sp' n), .int .u32 0, .map (some (mp n))] from rfl, ih (fun j hj => h j (by omega)), h n (by omega)]
theorem pcells_set (mp : Nat → Nat) (sp : Nat → Int) {n j : Nat} (h : j < n) (x : Int) : (pcells mp sp n).set (j * 3) (.int .i32 x) = pcells mp (upd sp j x) n := by
  induction n with
  | zero => omega
  | succ n ih =>
    rw [show pcells mp sp (n + 1) = pcells mp sp n ++ [.int .i32 (sp n), .int .u32 0, .map (some (mp n))] from rfl, show pcells mp (upd sp j x) (n + 1) = pcells mp (upd sp j x) n ++ [.int .i32 (upd sp j x n), .int .u32 0, .map (some (mp n))] from rfl]
    by_cases e : j = n
    · subst e
      rw [List.set_append_right _ _ (by rw [pcells_len]; omega), pcells_len, show j * 3 - j * 3 = 0 by omega, upd_same, pcells_same mp (sp' := upd sp j x) (fun i hi => (upd_other _ _ (by omega)).symm)]
      rfl
    · rw [List.set_append_left _ _ (by rw [pcells_len]; omega), ih (by omega), upd_other _ _ (fun f => e f.symm)]
/-- the part that a key is in. -/
def pj (n : Nat) (k : Ky) : Nat := ((k.1 + k.2) % 18446744073709551616 % (n : Int)).toNat
theorem pj_lt {n : Nat} (h : 0 < n) (k : Ky) : pj n k < n := by
  have h1 := Int.emod_nonneg ((k.1 + k.2) % 18446744073709551616) (show (n : Int) ≠ 0 by omega)
  have h2 := Int.emod_lt_of_pos ((k.1 + k.2) % 18446744073709551616) (show (0 : Int) < n by omega)
  unfold pj
  omega
def findE (X : List En) (k : Ky) : Option En := X.find? fun e => decide (e.k = k)
def fOf (X : List En) (n j : Nat) (k : Ky) : Option Nat := if pj n k = j then (findE X k).map En.p else none
def cntJ (X : List En) (n j : Nat) : Nat := (X.filter fun e => decide (pj n e.k = j)).length

/-! ### the table in memory -/
/-- A table: parts, room, how many are counted; entries in maps, and in memory; the line; the locks. -/
structure St (w : World) (L : Ly) (n room : Nat) (many : Int) (XM XN : List En) (U : List Nat) (ls : Int) (sp : Nat → Int) : Prop where
  tab : At w L.b 65 [.slice (some ⟨L.gp, 0, none⟩) n n, .int .i32 ls, .int .u32 0, .int .i64 room, .int .i64 many, ptv L.z]
  par : At w L.gp 68 (pcells L.mp sp n)
  maps : ∀ j, j < n → Mq w (L.mp j) (fOf XM n j) (cntJ XM n j)
  nodes : ∃ ah bh, Nd w L.z (0, 0) 0 S0 (.slice none 0 0) (ah L.z) (bh L.z) ∧ (∀ e ∈ XN, Er w L ah bh e) ∧ Ch ah bh L.z U L.z
  ln : (L.z :: U).Nodup
  lu : ∀ q ∈ U, ∃ e ∈ XN, e.p = q
  pn : (XN.map En.p).Nodup
  cb : L.col L.b = 0
  cg : L.col L.gp = 1
  cz : L.col L.z = 2
  cm : ∀ j, j < n → L.col (L.mp j) = 100 + j
  ahead : ∀ i, w.heap.size ≤ i → L.col i = -1
section
variable {w w' : World} {L : Ly} {n room : Nat} {many : Int} {XM XN : List En} {U : List Nat} {ls : Int} {sp : Nat → Int}
theorem St.tn {c : Nat → Prop} (h : St w L n room many XM XN U ls sp) (t : Tn c w w') (hc : ∀ g, g < w.heap.size → c g → L.col g = -1) : St w' L n room many XM XN U ls sp := by
  obtain ⟨ah, bh, h1, h2, h3⟩ := h.nodes
  have q : ∀ {g : Nat} {v : Int}, g < w.heap.size → L.col g = v → v ≠ -1 → ¬ c g := fun hg e hv f => hv (e.symm.trans (hc _ hg f))
  refine ⟨h.tab.tn t (q h.tab.lt h.cb (by decide)), h.par.tn t (q h.par.lt h.cg (by decide)), fun j hj => (h.maps j hj).tn t (q (h.maps j hj).lt (h.cm j hj) (by omega)), ⟨ah, bh, h1.tn t (q (At.lt h1) h.cz (by decide)), fun e he => (h2 e he).tn t fun g hg f => ?_, h3⟩, h.ln, h.lu, h.pn, h.cb, h.cg, h.cz, h.cm, fun i hi => h.ahead i (Nat.le_trans t.size hi)⟩
  have := hc g hg f
  omega
theorem St.below (h : St w L n room many XM XN U ls sp) (k : Below w.heap.size w w') : St w' L n room many XM XN U ls sp := h.tn (tn_below Nil k) fun _ _ e => e.elim
theorem St.free (h : St w L n room many XM XN U ls sp) (k : Tn Nil w w') : St w' L n room many XM XN U ls sp := h.tn k fun _ _ e => e.elim
/-- a row of the table's own block turns. -/
theorem St.turn {c : Nat → Prop} {ls' many' : Int} (h : St w L n room many XM XN U ls sp) (t : Tn c w w') (hc : ∀ g, g < w.heap.size → c g → L.col g = 0)
    (hT : At w' L.b 65 [.slice (some ⟨L.gp, 0, none⟩) n n, .int .i32 ls', .int .u32 0, .int .i64 room, .int .i64 many', ptv L.z]) : St w' L n room many' XM XN U ls' sp := by
  obtain ⟨ah, bh, h1, h2, h3⟩ := h.nodes
  have q : ∀ {g : Nat} {v : Int}, g < w.heap.size → L.col g = v → v ≠ 0 → ¬ c g := fun hg e hv f => hv (e.symm.trans (hc _ hg f))
  refine ⟨hT, h.par.tn t (q h.par.lt h.cg (by decide)), fun j hj => (h.maps j hj).tn t (q (h.maps j hj).lt (h.cm j hj) (by omega)), ⟨ah, bh, h1.tn t (q (At.lt h1) h.cz (by decide)), fun e he => (h2 e he).tn t fun g hg f => ?_, h3⟩, h.ln, h.lu, h.pn, h.cb, h.cg, h.cz, h.cm, fun i hi => h.ahead i (Nat.le_trans t.size hi)⟩
  have := hc g hg f
  omega
/-- the line's lock. -/
theorem St.lock (h : St w L n room many XM XN U ls sp) (x : Int) : St (w.setCell ⟨L.b, 1, none⟩ (.int .i32 x)) L n room many XM XN U x sp :=
  h.turn (c := fun i => i = L.b) ((Tn.refl _ w).set _ _ (fun _ => rfl)) (fun g _ e => by rw [show g = L.b from e]; exact h.cb) (h.tab.set_ 1 _)
/-- how many are counted. -/
theorem St.count (h : St w L n room many XM XN U ls sp) (x : Int) : St (w.setCell ⟨L.b, 4, none⟩ (.int .i64 x)) L n room x XM XN U ls sp :=
  h.turn (c := fun i => i = L.b) ((Tn.refl _ w).set _ _ (fun _ => rfl)) (fun g _ e => by rw [show g = L.b from e]; exact h.cb) (h.tab.set_ 4 _)
/-- a part's lock. -/
theorem St.plock (h : St w L n room many XM XN U ls sp) {j : Nat} (hj : j < n) (x : Int) : St (w.setCell ⟨L.gp, j * 3, none⟩ (.int .i32 x)) L n room many XM XN U ls (upd sp j x) := by
  have t : Tn (fun i => i = L.gp) w (w.setCell ⟨L.gp, j * 3, none⟩ (.int .i32 x)) := (Tn.refl _ w).set _ _ (fun _ => rfl)
  obtain ⟨ah, bh, h1, h2, h3⟩ := h.nodes
  have q : ∀ {g : Nat} {v : Int}, L.col g = v → v ≠ 1 → ¬ g = L.gp := fun e hv f => hv (by rw [← e, f]; exact h.cg)
  refine ⟨h.tab.tn t (q h.cb (by decide)), ?_, fun j hj => (h.maps j hj).tn t (q (h.cm j hj) (by omega)), ⟨ah, bh, h1.tn t (q h.cz (by decide)), fun e he => (h2 e he).tn t fun g _ f => ?_, h3⟩, h.ln, h.lu, h.pn, h.cb, h.cg, h.cz, h.cm, fun i hi => h.ahead i (Nat.le_trans t.size hi)⟩
  · have := h.par.set_ (j * 3) (.int .i32 x)
    rw [pcells_set _ _ hj] at this
    exact this
  · rw [show g = L.gp from f, h.cg]; omega
theorem St.locks {sp' : Nat → Int} (h : St w L n room many XM XN U ls sp) (e : ∀ j, j < n → sp j = sp' j) : St w L n room many XM XN U ls sp' :=
  ⟨h.tab, by rw [← pcells_same L.mp e]; exact h.par, h.maps, h.nodes, h.ln, h.lu, h.pn, h.cb, h.cg, h.cz, h.cm, h.ahead⟩
/-- the entries' neighbours turn. -/
theorem St.relink {c : Nat → Prop} {U' : List Nat} (h : St w L n room many XM XN U ls sp) (t : Tn c w w') (hc : ∀ g, g < w.heap.size → c g → L.col g = 2 ∨ L.col g = 4)
    (hn : ∃ ah bh, Nd w' L.z (0, 0) 0 S0 (.slice none 0 0) (ah L.z) (bh L.z) ∧ (∀ e ∈ XN, Er w' L ah bh e) ∧ Ch ah bh L.z U' L.z) (h1 : (L.z :: U').Nodup) (h2 : ∀ q ∈ U', ∃ e ∈ XN, e.p = q) : St w' L n room many XM XN U' ls sp := by
  have q : ∀ {g : Nat} {v : Int}, g < w.heap.size → L.col g = v → v ≠ 2 → v ≠ 4 → ¬ c g := fun hg e h2 h4 f => by
    rcases hc _ hg f with k | k
    · exact h2 (e.symm.trans k)
    · exact h4 (e.symm.trans k)
  exact ⟨h.tab.tn t (q h.tab.lt h.cb (by decide) (by decide)), h.par.tn t (q h.par.lt h.cg (by decide) (by decide)), fun j hj => (h.maps j hj).tn t (q (h.maps j hj).lt (h.cm j hj) (by omega) (by omega)), hn, h1, h2, h.pn, h.cb, h.cg, h.cz, h.cm, fun i hi => h.ahead i (Nat.le_trans t.size hi)⟩
theorem Er.relink {ah bh ah' bh' : Nat → Option Nat} {e : En} {c : Nat → Prop} (h : Er w L ah bh e) (t : Tn c w w') (hc : ∀ g, g < w.heap.size → c g → L.col g = 2 ∨ L.col g = 4)
    (hn : ∀ (s : ByteArray) (v : Value), Nd w e.p e.k e.need s v (ah e.p) (bh e.p) → Nd w' e.p e.k e.need s v (ah' e.p) (bh' e.p)) : Er w' L ah' bh' e := by
  obtain ⟨s, v, h1, h2, h3⟩ := h.mem
  exact ⟨h.col, s, v, hn s v h1, h2, h3.tn t (fun g hg f k => by have := hc g hg k; omega)⟩
/-- a node of the line. -/
theorem St.node (h : St w L n room many XM XN U ls sp) {q : Nat} (hq : q = L.z ∨ q ∈ U) : (L.col q = 2 ∨ L.col q = 4) ∧ q < w.heap.size ∧ ∃ k need s v a b, Nd w q k need s v a b := by
  obtain ⟨ah, bh, h1, h2, h3⟩ := h.nodes
  rcases hq with rfl | hq
  · exact ⟨.inl h.cz, At.lt h1, _, _, _, _, _, _, h1⟩
  · obtain ⟨e, he, rfl⟩ := h.lu q hq
    obtain ⟨s, v, g1, _⟩ := (h2 e he).mem
    exact ⟨.inr (h2 e he).col, At.lt g1, _, _, _, _, _, _, g1⟩
/-- an entry. -/
theorem St.entry (h : St w L n room many XM XN U ls sp) {e : En} (he : e ∈ XN) : L.col e.p = 4 ∧ ∃ s v a b, Nd w e.p e.k e.need s v a b ∧ Idx s e.l ∧ Sr w (fun g => L.col g = 1000 + e.p) v (e.l.map (·.2)) := by
  obtain ⟨ah, bh, h1, h2, h3⟩ := h.nodes
  obtain ⟨s, v, g1, g2, g3⟩ := (h2 e he).mem
  exact ⟨(h2 e he).col, s, v, _, _, g1, g2, g3⟩
/-- fewer entries. -/
theorem St.sub {XN' : List En} (h : St w L n room many XM XN U ls sp) (hs : XN'.Sublist XN) (hu : ∀ q ∈ U, ∃ e ∈ XN', e.p = q) : St w L n room many XM XN' U ls sp := by
  obtain ⟨ah, bh, h1, h2, h3⟩ := h.nodes
  exact ⟨h.tab, h.par, h.maps, ⟨ah, bh, h1, fun e he => h2 e (hs.subset he), h3⟩, h.ln, hu, h.pn.sublist (hs.map _), h.cb, h.cg, h.cz, h.cm, h.ahead⟩
/-- one leaves the line. -/
theorem St.unl {p : Nat} {A B : List Nat} (h : St w L n room many XM XN (A ++ p :: B) ls sp)
    (hU : ∀ (q need : Nat) (k : Ky) (s : ByteArray) (v : Value) (a b : Option Nat), Nd w q k need s v a b → Nd w' q k need s v (if q = p then none else if q = B.headD L.z then some (lst L.z A) else a) (if q = p then none else if q = lst L.z A then some (B.headD L.z) else b))
    (t : Tn (fun i => i = p ∨ i = lst L.z A ∨ i = B.headD L.z) w w') : St w' L n room many XM XN (A ++ B) ls sp := by
  have hm : ∀ q, q = p ∨ q = lst L.z A ∨ q = B.headD L.z → q = L.z ∨ q ∈ A ++ p :: B := fun q hq => by
    rcases hq with rfl | rfl | rfl
    · exact .inr (by simp)
    · rcases lst_mem L.z A with e | e
      · exact .inl e
      · exact .inr (List.mem_append_left _ e)
    · cases B with
      | nil => exact .inl rfl
      | cons b r => exact .inr (by simp)
  have hc : ∀ g, g < w.heap.size → (g = p ∨ g = lst L.z A ∨ g = B.headD L.z) → L.col g = 2 ∨ L.col g = 4 := fun g _ e => (h.node (hm g e)).1
  obtain ⟨ah, bh, h1, h2, h3⟩ := h.nodes
  have hd := (h3.drop h.ln).2.2.2.2
  refine h.relink t hc ⟨_, _, hU _ _ _ _ _ _ _ h1, fun e he => (h2 e he).relink t hc fun s v g => hU _ _ _ _ _ _ _ g, hd⟩ ?_ fun q hq => h.lu q ?_
  · refine h.ln.sublist (List.Sublist.cons_cons _ (List.Sublist.append (List.Sublist.refl _) (List.sublist_cons_self ..)))
  · rcases List.mem_append.1 hq with e | e
    · exact List.mem_append_left _ e
    · exact List.mem_append_right _ (List.mem_cons_of_mem _ e)
/-- .. what it finds there. -/
theorem St.unl_at {p : Nat} {A B : List Nat} (h : St w L n room many XM XN (A ++ p :: B) ls sp) :
    (∃ k need s v, Nd w p k need s v (some (lst L.z A)) (some (B.headD L.z))) ∧ (∃ k need s v a b, Nd w (lst L.z A) k need s v a b) ∧ (∃ k need s v a b, Nd w (B.headD L.z) k need s v a b) ∧ lst L.z A ≠ p ∧ B.headD L.z ≠ p := by
  have hA : lst L.z A = L.z ∨ lst L.z A ∈ A ++ p :: B := by
    rcases lst_mem L.z A with e | e
    · exact .inl e
    · exact .inr (List.mem_append_left _ e)
  have hB : B.headD L.z = L.z ∨ B.headD L.z ∈ A ++ p :: B := by
    cases B with
    | nil => exact .inl rfl
    | cons b r => exact .inr (by simp)
  have nA := (h.node hA).2.2
  have nB := (h.node hB).2.2
  obtain ⟨ah, bh, h1, h2, h3⟩ := h.nodes
  obtain ⟨d1, d2, d3, d4, _⟩ := h3.drop h.ln
  obtain ⟨e, he, rfl⟩ := h.lu p (by simp)
  obtain ⟨s, v, g1, _⟩ := (h2 e he).mem
  rw [d1, d2] at g1
  exact ⟨⟨_, _, _, _, g1⟩, nA, nB, d3, d4⟩
/-- one enters the line. -/
theorem St.push {e : En} (h : St w L n room many XM XN U ls sp) (he : e ∈ XN) (hp : e.p ∉ U)
    (hU : ∀ (q need : Nat) (k : Ky) (s : ByteArray) (v : Value) (a b : Option Nat), Nd w q k need s v a b → Nd w' q k need s v (if q = L.z then some e.p else if q = e.p then some (lst L.z U) else a) (if q = lst L.z U then some e.p else if q = e.p then some L.z else b))
    (t : Tn (fun i => i = e.p ∨ i = lst L.z U ∨ i = L.z) w w') : St w' L n room many XM XN (U ++ [e.p]) ls sp := by
  have hcp := (h.entry he).1
  have hpz : e.p ≠ L.z := fun f => by rw [f, h.cz] at hcp; exact absurd hcp (by decide)
  have hc : ∀ g, g < w.heap.size → (g = e.p ∨ g = lst L.z U ∨ g = L.z) → L.col g = 2 ∨ L.col g = 4 := fun g _ f => by
    rcases f with rfl | rfl | rfl
    · exact .inr hcp
    · exact (h.node (lst_mem L.z U)).1
    · exact .inl h.cz
  obtain ⟨ah, bh, h1, h2, h3⟩ := h.nodes
  have hd := h3.push h.ln (p := e.p) (fun f => by rcases List.mem_cons.1 f with f | f; exact hpz f; exact hp f)
  refine h.relink t hc ⟨_, _, hU _ _ _ _ _ _ _ h1, fun e' he' => (h2 e' he').relink t hc fun s v g => hU _ _ _ _ _ _ _ g, hd⟩ ?_ fun q hq => ?_
  · obtain ⟨n1, n2⟩ := List.nodup_cons.1 h.ln
    refine List.nodup_cons.2 ⟨fun f => ?_, List.nodup_append.2 ⟨n2, by simp, fun a ha b hb => ?_⟩⟩
    · rcases List.mem_append.1 f with f | f
      · exact n1 f
      · exact hpz (List.mem_singleton.1 f).symm
    · obtain rfl : b = e.p := by simpa using hb
      exact fun f => hp (f ▸ ha)
  · rcases List.mem_append.1 hq with f | f
    · exact h.lu q f
    · exact ⟨e, he, (List.mem_singleton.1 f).symm⟩
/-- .. what it finds there. -/
theorem St.push_at (h : St w L n room many XM XN U ls sp) :
    (∃ k need s v b, Nd w L.z k need s v (some (lst L.z U)) b) ∧ ∃ k need s v a b, Nd w (lst L.z U) k need s v a b := by
  have nA := (h.node (lst_mem L.z U)).2.2
  obtain ⟨ah, bh, h1, h2, h3⟩ := h.nodes
  rw [h3.last.1] at h1
  exact ⟨⟨_, _, _, _, _, h1⟩, nA⟩
/-- whose the blocks are, with one entry more. -/
def Ly.put (L : Ly) (p g : Nat) : Ly := { L with col := fun i => if i = p then 4 else if i = g then 1000 + p else L.col i }
theorem Ly.put_old {p g i : Nat} {v : Int} (hp : L.col p = -1) (hg : L.col g = -1) (h : L.col i = v) (hv : v ≠ -1) : (L.put p g).col i = v := by
  show (if i = p then (4 : Int) else if i = g then 1000 + p else L.col i) = v
  rw [if_neg (fun e => hv (by rw [← h, e, hp])), if_neg (fun e => hv (by rw [← h, e, hg])), h]
/-- an entry more, in no line. -/
theorem St.born {e : En} {g : Nat} {s : ByteArray} {v : Value} (h : St w L n room many XM XN U ls sp) (hp : L.col e.p = -1) (hg : L.col g = -1) (hpg : e.p ≠ g) (hgl : g < w.heap.size)
    (hn : Nd w e.p e.k e.need s v none none) (hs : Idx s e.l) (hr : Sr w (fun i => i = g) v (e.l.map (·.2))) : St w (L.put e.p g) n room many XM (XN ++ [e]) U ls sp := by
  obtain ⟨ah, bh, h1, h2, h3⟩ := h.nodes
  have hne : ∀ a ∈ XN, a.p ≠ e.p := fun a ha f => by have := (h2 a ha).col; rw [f, hp] at this; exact absurd this (by decide)
  have hz : L.z ≠ e.p := fun f => by have := h.cz; rw [f, hp] at this; exact absurd this (by decide)
  have hU : ∀ q ∈ U, q ≠ e.p := fun q hq => by obtain ⟨a, ha, rfl⟩ := h.lu q hq; exact hne a ha
  refine ⟨h.tab, h.par, h.maps, ⟨upd ah e.p none, upd bh e.p none, ?_, fun a ha => ?_, h3.keep (fun q hq => upd_other _ _ ?_) (fun q hq => upd_other _ _ ?_)⟩, h.ln, fun q hq => ?_, ?_, Ly.put_old hp hg h.cb (by decide), Ly.put_old hp hg h.cg (by decide), Ly.put_old hp hg h.cz (by decide), fun j hj => Ly.put_old hp hg (h.cm j hj) (by omega), fun i hi => ?_⟩
  · show Nd w L.z _ _ _ _ (upd ah e.p none L.z) (upd bh e.p none L.z)
    rw [upd_other _ _ hz, upd_other _ _ hz]
    exact h1
  · rcases List.mem_append.1 ha with ha | ha
    · obtain ⟨s', v', g1, g2, g3⟩ := (h2 a ha).mem
      refine ⟨Ly.put_old hp hg (h2 a ha).col (by decide), s', v', ?_, g2, g3.mono fun i _ f => Ly.put_old hp hg f (by omega)⟩
      rw [upd_other _ _ (hne a ha), upd_other _ _ (hne a ha)]
      exact g1
    · obtain rfl : a = e := by simpa using ha
      refine ⟨if_pos rfl, s, v, ?_, hs, hr.mono fun i _ f => ?_⟩
      · rw [upd_same, upd_same]; exact hn
      · show (if i = a.p then (4 : Int) else if i = g then 1000 + a.p else L.col i) = _
        rw [show i = g from f, if_neg (Ne.symm hpg), if_pos rfl]
  · rcases hq with rfl | hq
    · exact hz
    · exact hU q hq
  · rcases hq with rfl | hq
    · exact hz
    · exact hU q hq
  · obtain ⟨a, ha, f⟩ := h.lu q hq
    exact ⟨a, List.mem_append_left _ ha, f⟩
  · rw [List.map_append]
    refine List.nodup_append.2 ⟨h.pn, by simp, fun a ha b hb => ?_⟩
    obtain rfl : b = e.p := by simpa using hb
    obtain ⟨c, hc, rfl⟩ := List.mem_map.1 ha
    exact hne c hc
  · show (if i = e.p then (4 : Int) else if i = g then 1000 + e.p else L.col i) = _
    have hl := At.lt hn
    rw [if_neg (by omega), if_neg (by omega)]
    exact h.ahead i hi
end
end Go.Proofs.Ytgclgmfmcgacdaa

/- Plain lemmas on one byte of a string. No condition beyond those that each lemma names. -/
namespace Go.Proofs.Ytgclgmfmcgacdaa
open Go.ChangeShapes Go.WideShapes Go.ChangeAt Go.RowKit

theorem at_index (s : ByteArray) (j : Nat) (h : j < s.size) (W : World) : (Instr.index 9 (Value.string s) (Value.int .i64 (j : Int))).run Try.prog W = .ok (Value.int .u8 ((bts s).getD j 0 : Nat)) W := by
  rw [run_index_string W 9 s .i64 (j : Int) Try.underlying9, dif_pos ⟨by omega, by omega⟩]
  have : (bts s).getD j 0 = s[j].toNat := by
    unfold bts
    rw [List.getD_eq_getElem?_getD, List.getElem?_map, Array.getElem?_toList, Array.getElem?_eq_getElem h]; rfl
  rw [this]; rfl
end Go.Proofs.Ytgclgmfmcgacdaa
