/- No program in it: rows of numbers that are sorted in place: exchanges, rows that are exchanges of each other in a range, insertion, heaps, partitions. Rows of uint16 in place: cells, stores, index addresses, small arithmetic; cmp.Less. -/
import Derived.Test.YtijfbhdbfplghaaGreatG11
import Derived.Test.YtijfbhdbfplghaaGreatG27
import Derived.Test.YtijfbhdbfplghaaGreatG26
namespace Go.Proofs.YtijfbhdbfplghaaGreat
def swp (l : List Int) (i j : Nat) : List Int := (l.set i (l.getD j 0)).set j (l.getD i 0)
theorem swp_len (l : List Int) (i j : Nat) : (swp l i j).length = l.length := by unfold swp; rw [List.length_set, List.length_set]
theorem getD_set0 (l : List Int) (i k : Nat) (x : Int) (hi : i < l.length) : (l.set i x).getD k 0 = if k = i then x else l.getD k 0 := by
  simp only [List.getD_eq_getElem?_getD, List.getElem?_set]
  by_cases e : i = k
  · subst e; simp [hi]
  · rw [if_neg e, if_neg (fun h => e h.symm)]
theorem swp_get {l : List Int} {i j : Nat} (hi : i < l.length) (hj : j < l.length) (k : Nat) : (swp l i j).getD k 0 = if k = j then l.getD i 0 else if k = i then l.getD j 0 else l.getD k 0 := by
  unfold swp
  rw [getD_set0 _ _ _ _ (by rw [List.length_set]; exact hj), getD_set0 _ _ _ _ hi]
theorem swp_perm {l : List Int} {i j : Nat} (hi : i < l.length) (hj : j < l.length) : (swp l i j).Perm l := by
  unfold swp
  rw [List.getD_eq_getElem?_getD, List.getD_eq_getElem?_getD, List.getElem?_eq_getElem hi, List.getElem?_eq_getElem hj, Option.getD_some, Option.getD_some]
  exact List.set_set_perm hi hj
/-- m is l after exchanges in the range from a to b. -/
inductive Per (a b : Nat) : List Int → List Int → Prop
  | refl (l : List Int) : Per a b l l
  | swap {l m : List Int} {i j : Nat} : Per a b l m → a ≤ i → i < b → a ≤ j → j < b → b ≤ m.length → Per a b l (swp m i j)
theorem Per.len {a b : Nat} {l m : List Int} (h : Per a b l m) : m.length = l.length := by
  induction h with
  | refl => rfl
  | swap _ _ _ _ _ _ ih => rw [swp_len, ih]
theorem Per.trans {a b : Nat} {l m k : List Int} (h : Per a b l m) (g : Per a b m k) : Per a b l k := by
  induction g with
  | refl => exact h
  | swap _ h1 h2 h3 h4 h5 ih => exact .swap ih h1 h2 h3 h4 h5
theorem Per.mono {a b c d : Nat} {l m : List Int} (h : Per a b l m) (h1 : c ≤ a) (h2 : b ≤ d) (h3 : d ≤ l.length) : Per c d l m := by
  induction h with
  | refl => exact .refl _
  | swap g h4 h5 h6 h7 h8 ih => exact .swap ih (by omega) (by omega) (by omega) (by omega) (by have := g.len; omega)
theorem Per.perm {a b : Nat} {l m : List Int} (h : Per a b l m) : m.Perm l := by
  induction h with
  | refl => exact List.Perm.refl _
  | swap _ h1 h2 h3 h4 h5 ih => exact (swp_perm (by omega) (by omega)).trans ih
theorem Per.out {a b : Nat} {l m : List Int} (h : Per a b l m) {k : Nat} (hk : k < a ∨ b ≤ k) : m.getD k 0 = l.getD k 0 := by
  induction h with
  | refl => rfl
  | swap _ h1 h2 h3 h4 h5 ih => rw [swp_get (by omega) (by omega), if_neg (by omega), if_neg (by omega), ih]
theorem Per.all {a b : Nat} {l m : List Int} (h : Per a b l m) {Q : Int → Prop} (hq : ∀ k, a ≤ k → k < b → Q (l.getD k 0)) : ∀ k, a ≤ k → k < b → Q (m.getD k 0) := by
  induction h with
  | refl => exact hq
  | @swap m i j _ h1 h2 h3 h4 h5 ih =>
    intro k hk hk2
    rw [swp_get (by omega) (by omega)]
    split
    · exact ih i h1 h2
    · split
      · exact ih j h3 h4
      · exact ih k hk hk2
theorem Per.one {a b i j : Nat} {l : List Int} (h1 : a ≤ i) (h2 : i < b) (h3 : a ≤ j) (h4 : j < b) (h5 : b ≤ l.length) : Per a b l (swp l i j) := .swap (.refl l) h1 h2 h3 h4 h5
/-- Sorted from a up to b. -/
def Sd (l : List Int) (a b : Nat) : Prop := ∀ p q, a ≤ p → p < q → q < b → l.getD p 0 ≤ l.getD q 0
theorem sd_small {l : List Int} {a b : Nat} (h : b ≤ a + 1) : Sd l a b := fun p q h1 h2 h3 => by omega
theorem Sd.snoc {l : List Int} {a b : Nat} (h : Sd l a b) (hab : a < b) (h2 : l.getD (b - 1) 0 ≤ l.getD b 0) : Sd l a (b + 1) := fun p q h3 h4 h5 => by
  by_cases e : q = b
  · subst e
    by_cases e2 : p = q - 1
    · subst e2; exact h2
    · exact Int.le_trans (h p (q - 1) h3 (by omega) (by omega)) h2
  · exact h p q h3 h4 (by omega)
theorem Sd.mono {l : List Int} {a b c d : Nat} (h : Sd l a b) (h1 : a ≤ c) (h2 : d ≤ b) : Sd l c d := fun p q h3 h4 h5 => h p q (by omega) h4 (by omega)
theorem Sd.eqv {l m : List Int} {a b : Nat} (h : Sd l a b) (he : ∀ k, a ≤ k → k < b → m.getD k 0 = l.getD k 0) : Sd m a b := fun p q h3 h4 h5 => by rw [he p h3 (by omega), he q (by omega) h5]; exact h p q h3 h4 h5
/-! Insertion. -/
def InsI (l : List Int) (a i j : Nat) : Prop := ∀ p q, a ≤ p → p < q → q ≤ i → q ≠ j → l.getD p 0 ≤ l.getD q 0
theorem ins_start {l : List Int} {a i : Nat} (h : Sd l a i) : InsI l a i i := fun p q h1 h2 h3 h4 => h p q h1 h2 (by omega)
theorem ins_step {l : List Int} {a i j : Nat} (h : InsI l a i j) (h1 : a < j) (h2 : j ≤ i) (h3 : i < l.length) (hl : l.getD j 0 < l.getD (j - 1) 0) : InsI (swp l j (j - 1)) a i (j - 1) := by
  intro p q g1 g2 g3 g4
  rw [swp_get (by omega) (by omega), swp_get (by omega) (by omega)]
  rw [if_neg g4]
  by_cases e : q = j
  · subst e
    rw [if_pos rfl]
    by_cases e2 : p = q - 1
    · rw [if_pos e2]; omega
    · rw [if_neg e2, if_neg (by omega)]; exact h p (q - 1) g1 (by omega) (by omega) (by omega)
  · rw [if_neg e]
    by_cases e2 : p = j - 1
    · rw [if_pos e2]
      by_cases e3 : q < j
      · omega
      · exact h j q (by omega) (by omega) g3 e
    · rw [if_neg e2]
      by_cases e3 : p = j
      · rw [if_pos e3]; exact h (j - 1) q (by omega) (by omega) g3 e
      · rw [if_neg e3]; exact h p q g1 g2 g3 e
theorem ins_end {l : List Int} {a i j : Nat} (h : InsI l a i j) (h1 : a ≤ j) (h2 : j ≤ i) (hl : j = a ∨ l.getD (j - 1) 0 ≤ l.getD j 0) : Sd l a (i + 1) := by
  intro p q g1 g2 g3
  by_cases e : q = j
  · subst e
    rcases hl with hl | hl
    · omega
    · by_cases e2 : p = q - 1
      · subst e2; exact hl
      · exact Int.le_trans (h p (q - 1) g1 (by omega) (by omega) (by omega)) hl
  · exact h p q g1 g2 (by omega) e
/-! Heaps: the greatest first, in the range behind f. -/
def HpF (l : List Int) (f lo hi : Nat) : Prop := ∀ p c, lo ≤ p → c = 2 * p + 1 ∨ c = 2 * p + 2 → c < hi → l.getD (f + c) 0 ≤ l.getD (f + p) 0
structure SiftI (l : List Int) (f lo hi r : Nat) : Prop where
  out : ∀ p c, lo ≤ p → p ≠ r → c = 2 * p + 1 ∨ c = 2 * p + 2 → c < hi → l.getD (f + c) 0 ≤ l.getD (f + p) 0
  up : ∀ p c, lo ≤ p → r = 2 * p + 1 ∨ r = 2 * p + 2 → c = 2 * r + 1 ∨ c = 2 * r + 2 → c < hi → l.getD (f + c) 0 ≤ l.getD (f + p) 0
theorem sift_start {l : List Int} {f lo hi : Nat} (h : HpF l f (lo + 1) hi) : SiftI l f lo hi lo :=
  ⟨fun p c h1 h2 h3 h4 => h p c (by omega) h3 h4, fun p c h1 h2 _ _ => by omega⟩
theorem sift_end {l : List Int} {f lo hi r : Nat} (h : SiftI l f lo hi r) (hr : ∀ c, c = 2 * r + 1 ∨ c = 2 * r + 2 → c < hi → l.getD (f + c) 0 ≤ l.getD (f + r) 0) : HpF l f lo hi := fun p c h1 h2 h3 => by
  by_cases e : p = r
  · subst e; exact hr c h2 h3
  · exact h.out p c h1 e h2 h3
theorem sift_step {l : List Int} {f lo hi r c : Nat} (h : SiftI l f lo hi r) (hlo : lo ≤ r) (hc : c = 2 * r + 1 ∨ c = 2 * r + 2) (hch : c < hi) (hlen : f + hi ≤ l.length)
    (hb : ∀ d, d = 2 * r + 1 ∨ d = 2 * r + 2 → d < hi → l.getD (f + d) 0 ≤ l.getD (f + c) 0) (hl : l.getD (f + r) 0 < l.getD (f + c) 0) : SiftI (swp l (f + r) (f + c)) f lo hi c := by
  refine ⟨fun p d h1 h2 h3 h4 => ?_, fun p d h1 h2 h3 h4 => ?_⟩
  · rw [swp_get (by omega) (by omega), swp_get (by omega) (by omega)]
    by_cases e : p = r
    · subst e
      rw [if_neg (show ¬ f + p = f + c by omega), if_pos rfl]
      by_cases e2 : d = c
      · rw [if_pos (by omega)]; omega
      · rw [if_neg (by omega), if_neg (by omega)]; exact hb d h3 h4
    · rw [if_neg (show ¬ f + p = f + c by omega), if_neg (show ¬ f + p = f + r by omega)]
      by_cases e2 : d = r
      · subst e2
        rw [if_neg (by omega), if_pos rfl]
        exact h.up p c h1 h3 hc hch
      · by_cases e3 : d = c
        · omega
        · rw [if_neg (by omega), if_neg (by omega)]; exact h.out p d h1 e h3 h4
  · have e : p = r := by omega
    subst e
    rw [swp_get (by omega) (by omega), swp_get (by omega) (by omega), if_neg (by omega), if_neg (by omega), if_neg (show ¬ f + p = f + c by omega), if_pos rfl]
    exact h.out c d (by omega) (by omega) h3 h4
theorem hp_max {l : List Int} {f hi : Nat} (h : HpF l f 0 hi) : ∀ k, k < hi → l.getD (f + k) 0 ≤ l.getD f 0 := by
  intro k
  induction k using Nat.strongRecOn with
  | _ k ih =>
    intro hk
    by_cases e : k = 0
    · subst e; exact Int.le_refl _
    · have h1 := h ((k - 1) / 2) k (Nat.zero_le _) (by omega) hk
      exact Int.le_trans h1 (ih ((k - 1) / 2) (by omega) (by omega))
theorem hp_none {l : List Int} {f lo hi : Nat} (h : hi ≤ 2 * lo + 1) : HpF l f lo hi := fun p c h1 h2 h3 => by omega
/-- The end of the heap's row: sorted, and over what stands ahead of it. -/
structure HsI (l : List Int) (f hi n : Nat) : Prop where
  hp : HpF l f 0 hi
  sd : Sd l (f + hi) (f + n)
  top : ∀ p q, p < hi → hi ≤ q → q < n → l.getD (f + p) 0 ≤ l.getD (f + q) 0
theorem hs_start {l : List Int} {f n : Nat} (h : HpF l f 0 n) : HsI l f n n := ⟨h, fun p q h1 h2 h3 => by omega, fun p q h1 h2 h3 => by omega⟩
theorem hs_mid {l : List Int} {f k n : Nat} (h : HsI l f (k + 1) n) (hl : f + n ≤ l.length) (hk : k < n) : HpF (swp l f (f + k)) f 1 k := fun p c h1 h2 h3 => by
  rw [swp_get (by omega) (by omega), swp_get (by omega) (by omega), if_neg (by omega), if_neg (by omega), if_neg (by omega), if_neg (by omega)]
  exact h.hp p c (Nat.zero_le _) h2 (by omega)
theorem hs_step {l m : List Int} {f k n : Nat} (h : HsI l f (k + 1) n) (hl : f + n ≤ l.length) (hk : k < n) (hp : Per f (f + k) (swp l f (f + k)) m) (hh : HpF m f 0 k) : HsI m f k n := by
  have hm : ∀ q, q < k + 1 → l.getD (f + q) 0 ≤ l.getD f 0 := fun q hq => hp_max h.hp q hq
  have e0 : m.getD (f + k) 0 = l.getD f 0 := by rw [hp.out (.inr (Nat.le_refl _)), swp_get (by omega) (by omega), if_pos rfl]
  have e1 : ∀ q, k < q → m.getD (f + q) 0 = l.getD (f + q) 0 := fun q hq => by rw [hp.out (.inr (by omega)), swp_get (by omega) (by omega), if_neg (by omega), if_neg (by omega)]
  have all : ∀ x, (∀ q, q < k + 1 → l.getD (f + q) 0 ≤ x) → ∀ p, p < k → m.getD (f + p) 0 ≤ x := fun x hx p hpk => by
    refine hp.all (Q := fun y => y ≤ x) (fun j h1 h2 => ?_) (f + p) (by omega) (by omega)
    rw [swp_get (by omega) (by omega), if_neg (by omega)]
    split
    · exact hx k (by omega)
    · have := hx (j - f) (by omega)
      rwa [show f + (j - f) = j by omega] at this
  refine ⟨hh, fun p q h1 h2 h3 => ?_, fun p q h1 h2 h3 => ?_⟩
  · have eq : m.getD q 0 = l.getD q 0 := by have := e1 (q - f) (by omega); rwa [show f + (q - f) = q by omega] at this
    rw [eq]
    by_cases e : p = f + k
    · rw [e, e0]
      have := h.top 0 (q - f) (by omega) (by omega) (by omega)
      rwa [Nat.add_zero, show f + (q - f) = q by omega] at this
    · have ep : m.getD p 0 = l.getD p 0 := by have := e1 (p - f) (by omega); rwa [show f + (p - f) = p by omega] at this
      rw [ep]; exact h.sd p q (by omega) h2 h3
  · by_cases e : q = k
    · rw [e, e0]; exact all _ hm p h1
    · rw [e1 q (by omega)]
      exact all _ (fun j hj => h.top j q hj (by omega) h3) p h1
end Go.Proofs.YtijfbhdbfplghaaGreat
namespace Go.Proofs.YtijfbhdbfplghaaGreat
open Go.RowKit
theorem OwnN.set {w : World} {B g n cap : Nat} {l : List Int} (h : OwnN w B (.slice (some ⟨g, 0, none⟩) n cap) l) (i : Nat) (x : Int) (hx : 0 ≤ x ∧ x < 65536) :
    OwnN (w.setCell ⟨g, i, none⟩ (.int .u16 x)) B (.slice (some ⟨g, 0, none⟩) n cap) (l.set i x) := by
  obtain ⟨_, _, e⟩ := h.shape
  simp only [Value.slice.injEq] at e
  obtain ⟨_, rfl, _⟩ := e
  refine ⟨fun y hy => ?_, ?_⟩
  · rcases List.mem_or_eq_of_mem_set hy with h1 | h1
    · exact h.ok y h1
    · subst h1; exact hx
  · rw [List.length_set, nc_set]; exact (h.row.stored i _).1
theorem OwnN.cell {w : World} {B g n cap : Nat} {l : List Int} (h : OwnN w B (.slice (some ⟨g, 0, none⟩) n cap) l) {i : Nat} (hi : i < l.length) : w.cell? ⟨g, i, none⟩ = some (.int .u16 (l.getD i 0)) := by
  obtain ⟨A, c, e2⟩ := h.shape
  simp only [Value.slice.injEq] at e2
  obtain ⟨_, rfl, _⟩ := e2
  rw [h.row.cellAt i (by omega)]; exact nc_get hi
theorem OwnN.fz {w : World} {B g n cap : Nat} {l : List Int} (h : OwnN w B (.slice (some ⟨g, 0, none⟩) n cap) l) (i : Nat) : w.frozen? ⟨g, i, none⟩ = false := by
  obtain ⟨A, c, e2⟩ := h.shape
  simp only [Value.slice.injEq] at e2
  obtain ⟨_, rfl, _⟩ := e2
  exact h.row.frozenAt i
theorem OwnN.len {w : World} {B g n cap : Nat} {l : List Int} (h : OwnN w B (.slice (some ⟨g, 0, none⟩) n cap) l) : n = l.length := by
  obtain ⟨A, c, e2⟩ := h.shape
  simp only [Value.slice.injEq] at e2
  exact e2.2.1
section
variable {o : Oper} {a : Act} {w : World}
theorem exec_ixg {t : TypeId} (hu : Tryz.prog.underlying t = some (.slice 23)) (x y : Operand) (ho : o.op = .indexAddr t x y) (g n cap i : Nat) (z : Int) (hx : a.eval x = .slice (some ⟨g, 0, none⟩) n cap) (hy : a.eval y = .int .i64 z) (hz : z = (i : Int)) (hi : i < n) :
    (execOp a.eval o).run Tryz.prog w = .ok (.value (.pointer (some ⟨g, i, none⟩))) w :=
  exec_indexN hu x y ho (some ⟨g, 0, none⟩) n cap g i i z hx hy hz ⟨⟨0, rfl, by omega⟩, hi⟩
theorem wrap_small {z : Int} (h1 : -4611686018427387904 ≤ z) (h2 : z ≤ 4611686018427387904) : IntKind.i64.wrap z = z := by
  have h : IntKind.i64.wrap z = if 9223372036854775808 ≤ z % 18446744073709551616 then z % 18446744073709551616 - 18446744073709551616 else z % 18446744073709551616 := by
    unfold IntKind.wrap
    simp [IntKind.bits, IntKind.signed]
  rw [h]
  split <;> omega
theorem exec_addn (x y : Operand) (ho : o.op = .binOp .add 3 x y 3) (p q : Int) (r : Int) (hx : a.eval x = .int .i64 p) (hy : a.eval y = .int .i64 q) (hr : p + q = r) (hb : -100000 ≤ r ∧ r ≤ 100000) :
    (execOp a.eval o).run Tryz.prog w = .ok (.value (.int .i64 r)) w := by
  unfold execOp
  simp only [ho, hx, hy]
  go_simp
  exact wrap_small (by omega) (by omega)
theorem exec_subn (x y : Operand) (ho : o.op = .binOp .sub 3 x y 3) (p q : Int) (r : Int) (hx : a.eval x = .int .i64 p) (hy : a.eval y = .int .i64 q) (hr : p - q = r) (hb : -100000 ≤ r ∧ r ≤ 100000) :
    (execOp a.eval o).run Tryz.prog w = .ok (.value (.int .i64 r)) w := by
  unfold execOp
  simp only [ho, hx, hy]
  go_simp
  exact wrap_small (by omega) (by omega)
theorem exec_muln (x y : Operand) (ho : o.op = .binOp .mul 3 x y 3) (p q : Int) (r : Int) (hx : a.eval x = .int .i64 p) (hy : a.eval y = .int .i64 q) (hr : p * q = r) (hb : -100000 ≤ r ∧ r ≤ 100000) :
    (execOp a.eval o).run Tryz.prog w = .ok (.value (.int .i64 r)) w := by
  unfold execOp
  simp only [ho, hx, hy]
  go_simp
  exact wrap_small (by omega) (by omega)
theorem exec_half (x : Operand) (ho : o.op = .binOp .quo 3 x (.const (.int .i64 2)) 3) (p r : Int) (hx : a.eval x = .int .i64 p) (hr : p.tdiv 2 = r) (hb : -100000 ≤ r ∧ r ≤ 100000) :
    (execOp a.eval o).run Tryz.prog w = .ok (.value (.int .i64 r)) w := by
  unfold execOp
  simp only [ho, hx]
  go_simp
  exact wrap_small (by omega) (by omega)
theorem exec_lt (x y : Operand) (ho : o.op = .binOp .lss 3 x y 3) (p q : Int) (b : Bool) (hx : a.eval x = .int .i64 p) (hy : a.eval y = .int .i64 q) (hb : decide (p < q) = b) :
    (execOp a.eval o).run Tryz.prog w = .ok (.value (.bool b)) w := by
  unfold execOp
  simp only [ho, hx, hy]
  subst hb
  go_simp
theorem exec_gt (x y : Operand) (ho : o.op = .binOp .gtr 3 x y 3) (p q : Int) (b : Bool) (hx : a.eval x = .int .i64 p) (hy : a.eval y = .int .i64 q) (hb : decide (q < p) = b) :
    (execOp a.eval o).run Tryz.prog w = .ok (.value (.bool b)) w := by
  unfold execOp
  simp only [ho, hx, hy]
  subst hb
  go_simp
theorem exec_le (x y : Operand) (ho : o.op = .binOp .leq 3 x y 3) (p q : Int) (b : Bool) (hx : a.eval x = .int .i64 p) (hy : a.eval y = .int .i64 q) (hb : decide (p ≤ q) = b) :
    (execOp a.eval o).run Tryz.prog w = .ok (.value (.bool b)) w := by
  unfold execOp
  simp only [ho, hx, hy]
  subst hb
  go_simp
theorem exec_ge (x y : Operand) (ho : o.op = .binOp .geq 3 x y 3) (p q : Int) (b : Bool) (hx : a.eval x = .int .i64 p) (hy : a.eval y = .int .i64 q) (hb : decide (q ≤ p) = b) :
    (execOp a.eval o).run Tryz.prog w = .ok (.value (.bool b)) w := by
  unfold execOp
  simp only [ho, hx, hy]
  subst hb
  go_simp
end
theorem isNaN16_is (x : Int) (w : World) : Calls Tryz.prog 114 #[.int .u16 x] w fun e w' => e = .returned (.bool false) ∧ w = w' := by
  have h : (x != x) = false := by simp
  go_enter Tryz.func114, Tryz.ntmps114
  go_wp2_with fail
  go_ret
  exact ⟨rfl, rfl⟩
theorem less16_is (x y : Int) (b : Bool) (w : World) (hb : Hid (decide (x < y) = b)) : Calls Tryz.prog 98 #[.int .u16 x, .int .u16 y] w fun e w' => e = .returned (.bool b) ∧ w = w' := by
  have h := hb.out
  clear hb
  go_enter Tryz.func98, Tryz.ntmps98
  go_wp2_with go_skip
  refine (isNaN16_is x w).mono ?_
  rintro e w1 ⟨rfl, rfl⟩
  go_wp2_with go_skip
  go_ret
  exact ⟨rfl, rfl⟩
end Go.Proofs.YtijfbhdbfplghaaGreat
