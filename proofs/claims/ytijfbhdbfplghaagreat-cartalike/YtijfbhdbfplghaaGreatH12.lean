/- Halves that count up and down, no program in it: sums of halves, what raises and lowers them, and the laws of joining. How carts are read, no program in it: quantities, lines, pieces, notes, the carts of a state; that they depend on the state only, and joins of states with unlike carts. How carts are read, no program in it: the atoms of a cart, or of an item in a cart, say all about it; the carts with a line or a text among all carts of a row. -/
import Derived.Test.YtijfbhdbfplghaaGreatH01
import Derived.Test.YtijfbhdbfplghaaGreatH02
import Derived.Test.YtijfbhdbfplghaaGreatH11
namespace Go.Proofs.YtijfbhdbfplghaaGreat
def hn (f : Ky → Option Vl) (k : Ky) : Int := ((f k).getD vzero).n
def hK (t c : Int) (m : List Int) (r : Int) : Ky := ⟨t, c, m, r, 0⟩
def sg (t : Int) : Int := if t = 2 then 1 else if t = 3 then -1 else 0
def ct (c : Int) (m : List Int) (a : Am) : Int := if a.k.c = c ∧ a.k.m = m then sg a.k.s * a.v.n else 0
def sm (c : Int) (m : List Int) (l : List Am) : Int := (l.map (ct c m)).sum
def up (F : Ky → Int) (c : Int) (m : List Int) : Nat → Int
  | 0 => 0
  | r + 1 => up F c m r + F (hK 2 c m r) - F (hK 3 c m r)
def tot (s : List Am) (c : Int) (m : List Int) : Int := sm c m (norm s)
theorem sg_2 : sg 2 = 1 := rfl
theorem sg_3 : sg 3 = -1 := rfl
theorem sg_no {t : Int} (h : ¬ (t = 2 ∨ t = 3)) : sg t = 0 := by
  unfold sg; rw [if_neg (fun e => h (.inl e)), if_neg (fun e => h (.inr e))]
theorem sm_nil (c : Int) (m : List Int) : sm c m [] = 0 := rfl
theorem sm_cons (c : Int) (m : List Int) (a : Am) (l : List Am) : sm c m (a :: l) = ct c m a + sm c m l := by
  unfold sm; rw [List.map_cons, List.sum_cons]
theorem sm_snoc (c : Int) (m : List Int) (l : List Am) (a : Am) : sm c m (l ++ [a]) = sm c m l + ct c m a := by
  induction l with
  | nil => rw [List.nil_append, sm_cons, sm_nil]; omega
  | cons b l ih => rw [List.cons_append, sm_cons, sm_cons, ih]; omega
theorem hK_iff (k : Ky) (t c : Int) (m : List Int) (r : Int) : k = hK t c m r ↔ (k.c = c ∧ k.m = m ∧ k.q = 0) ∧ k.s = t ∧ k.r = r := by
  obtain ⟨s, c', m', r', q⟩ := k
  unfold hK
  rw [Ky.mk.injEq]
  constructor
  · rintro ⟨h1, h2, h3, h4, h5⟩; exact ⟨⟨h2, h3, h5⟩, h1, h4⟩
  · rintro ⟨⟨h2, h3, h5⟩, h1, h4⟩; exact ⟨h1, h2, h3, h4, h5⟩
theorem up_inc {F G : Ky → Int} {c : Int} {m : List Int} {k0 : Ky} {d : Int} (h : ∀ k, k.s = 2 ∨ k.s = 3 → F k = G k + if k0 = k then d else 0) :
    ∀ n : Nat, up F c m n = up G c m n + if (k0.c = c ∧ k0.m = m ∧ k0.q = 0) ∧ 0 ≤ k0.r ∧ k0.r < n then sg k0.s * d else 0
  | 0 => by
    rw [if_neg (fun e => by omega)]; rfl
  | n + 1 => by
    rw [up, up, up_inc h n, h _ (.inl rfl), h _ (.inr rfl)]
    by_cases hc : k0.c = c ∧ k0.m = m ∧ k0.q = 0
    · have e2 : (k0 = hK 2 c m (n : Int)) ↔ k0.s = 2 ∧ k0.r = n := (hK_iff ..).trans (and_iff_right hc)
      have e3 : (k0 = hK 3 c m (n : Int)) ↔ k0.s = 3 ∧ k0.r = n := (hK_iff ..).trans (and_iff_right hc)
      simp only [e2, e3, hc, true_and]
      have lt1 : (k0.r < ((n + 1 : Nat) : Int)) ↔ k0.r < n ∨ k0.r = n := by omega
      simp only [lt1]
      by_cases h2 : k0.s = 2
      · have h3 : ¬ k0.s = 3 := by omega
        have s2 : sg k0.s = 1 := by rw [h2]; rfl
        simp only [h2, sg_2, true_and, (by decide : ¬ (2 : Int) = 3), false_and, if_false]
        split <;> split <;> split <;> omega
      · by_cases h3 : k0.s = 3
        · simp only [h3, sg_3, true_and, (by decide : ¬ (3 : Int) = 2), false_and, if_false]
          split <;> split <;> split <;> omega
        · have s0 : sg k0.s = 0 := sg_no (fun e => e.elim h2 h3)
          simp only [h2, h3, s0, false_and, if_false, Int.zero_mul, ite_self]
          omega
    · have e2 : ¬ (k0 = hK 2 c m (n : Int)) := fun e => hc ((hK_iff ..).1 e).1
      have e3 : ¬ (k0 = hK 3 c m (n : Int)) := fun e => hc ((hK_iff ..).1 e).1
      rw [if_neg e2, if_neg e3, if_neg (fun e => hc e.1), if_neg (fun e => hc e.1)]
      omega
theorem hn_cons {a : Am} {s : List Am} (h : St (a :: s)) (k : Ky) : hn (fnd (a :: s)) k = hn (fnd s) k + if a.k = k then a.v.n else 0 := by
  unfold hn
  rw [fnd]
  by_cases e : a.k = k
  · subst e
    rw [if_pos rfl, if_pos rfl, fnd_low h.low]
    show a.v.n = 0 + a.v.n
    omega
  · rw [if_neg e, if_neg e]; omega
theorem up_none (c : Int) (m : List Int) : ∀ n, up (fun _ => 0) c m n = 0
  | 0 => rfl
  | n + 1 => by rw [up, up_none c m n]; rfl
theorem sm_is {c : Int} {m : List Int} : ∀ {l : List Am}, St l → sm c m l = up (hn (fnd l)) c m 16
  | [], _ => by rw [sm_nil]; exact (up_none c m 16).symm
  | a :: l, h => by
    rw [sm_cons, sm_is h.tail, up_inc (fun k _ => hn_cons h k) 16]
    have hk := (h.ok a (List.mem_cons_self ..)).k
    have hr := h.rt a (List.mem_cons_self ..)
    have hr' : a.k.right = true := by unfold Am.right at hr; rw [Bool.and_eq_true] at hr; exact hr.1
    have h0 := hk.r0
    unfold ct
    rcases right_cases hr' with ⟨h1, -⟩ | ⟨⟨h1, -⟩ | ⟨h1, hq⟩, -, h2⟩
    · rw [sg_no (by omega)]; split <;> split <;> omega
    · rw [sg_no (by omega)]; split <;> split <;> omega
    · by_cases hc : a.k.c = c ∧ a.k.m = m
      · rw [if_pos hc, if_pos ⟨⟨hc.1, hc.2, hq⟩, h0, h2⟩]; omega
      · rw [if_neg hc, if_neg (fun e => hc ⟨e.1.1, e.1.2.1⟩)]; omega
theorem tot_is {s : List Am} (h : OkR s) (c : Int) (m : List Int) : tot s c m = up (hn (gt s)) c m 16 := by
  unfold tot
  rw [sm_is (norm_st h), show fnd (norm s) = gt s from funext (fnd_norm h)]
theorem half_val {s : List Am} (h : OkR s) {k : Ky} {v : Vl} (hk : k.s = 2 ∨ k.s = 3) (hv : gt s k = some v) : 1 ≤ v.n ∧ v.n ≤ 4294967295 ∧ v.t = M.zero8 := by
  have hm := fnd_mem (show fnd (norm s) k = some v by rw [fnd_norm h]; exact hv)
  have hr := (norm_st h).rt _ hm
  have e1 : ¬ k.s = 1 := by omega
  have e4 : ¬ k.s = 4 := by omega
  simp only [Am.right, valB, e1, e4, if_false, betweenB, Bool.and_eq_true, decide_eq_true_eq] at hr
  obtain ⟨_, ⟨h1, h2⟩, h3⟩ := hr
  exact ⟨h1, h2, by simpa using h3⟩
theorem hn_rg {s : List Am} (h : OkR s) {k : Ky} (hk : k.s = 2 ∨ k.s = 3) : 0 ≤ hn (gt s) k ∧ hn (gt s) k ≤ 4294967295 := by
  unfold hn
  cases e : gt s k with
  | none => exact ⟨Int.le_refl _, by decide⟩
  | some v => have := half_val h hk e; show 0 ≤ v.n ∧ v.n ≤ 4294967295; omega
theorem up_rg {F : Ky → Int} {c : Int} {m : List Int} (h : ∀ k, k.s = 2 ∨ k.s = 3 → 0 ≤ F k ∧ F k ≤ 4294967295) : ∀ n : Nat, -(n : Int) * 4294967295 ≤ up F c m n ∧ up F c m n ≤ (n : Int) * 4294967295
  | 0 => by rw [up]; decide
  | n + 1 => by
    have h1 := up_rg (c := c) (m := m) h n
    have h2 := h (hK 2 c m n) (.inl rfl)
    have h3 := h (hK 3 c m n) (.inr rfl)
    rw [up]
    omega
theorem hn_fnd {l : List Am} (h : St l) {k : Ky} (hk : k.s = 2 ∨ k.s = 3) : 0 ≤ hn (fnd l) k ∧ hn (fnd l) k ≤ 4294967295 := by
  rw [← show gt l = fnd l from funext (gt_st h)]; exact hn_rg h.ok hk
theorem St.left {l m : List Am} (h : St (l ++ m)) : St l :=
  ⟨fun a ha => h.ok a (List.mem_append_left _ ha), fun a ha => h.rt a (List.mem_append_left _ ha), (List.pairwise_append.1 h.so).1⟩
theorem sm_rg {l : List Am} (h : St l) (c : Int) (m : List Int) : -68719476720 ≤ sm c m l ∧ sm c m l ≤ 68719476720 := by
  rw [sm_is h]
  have := up_rg (c := c) (m := m) (fun k hk => hn_fnd h (k := k) hk) 16
  omega
theorem tot_rg {s : List Am} (h : OkR s) (c : Int) (m : List Int) : -68719476720 ≤ tot s c m ∧ tot s c m ≤ 68719476720 := sm_rg (norm_st h) c m
/-! What raises and lowers. -/
end Go.Proofs.YtijfbhdbfplghaaGreat
namespace Go.Proofs.YtijfbhdbfplghaaGreat
def quaN (s : List Am) (c : Int) (m : List Int) : Int := if presT s c m = true then max (tot s c m) 0 else 0
def linesQ (s : List Am) (c : Int) : List (List Int × Int) := (itemsT s c).map fun m => (m, quaN s c m)
def sumQ (l : List (List Int × Int)) : Int := (l.map (·.2)).sum
def piecesQ (s : List Am) (c : Int) : Int := sumQ (linesQ s c)
def noteT (s : List Am) (c : Int) : List Int := (noteV s c).t
def fullB (x : Am) : Bool := (decide (x.k.s = 1) && decide (x.v.n = 1)) || (decide (x.k.s = 4) && !(x.v.t == M.zero8))
def hasQ (l : List Am) (c : Int) : Bool := l.any fun x => fullB x && decide (x.k.c = c)
def cartsQ (s : List Am) : List Int := ((List.range 65536).map Int.ofNat).filter (hasQ (norm s))
theorem quaN_rg {s : List Am} (h : OkR s) (c : Int) (m : List Int) : 0 ≤ quaN s c m ∧ quaN s c m ≤ 68719476720 := by
  have := tot_rg h c m
  unfold quaN
  split <;> omega
theorem sumQ_snoc (l : List (List Int × Int)) (x : List Int × Int) : sumQ (l ++ [x]) = sumQ l + x.2 := by
  unfold sumQ; rw [List.map_append, List.sum_append]; simp
theorem sumQ_rg : ∀ (l : List (List Int × Int)), (∀ x ∈ l, 0 ≤ x.2 ∧ x.2 ≤ 68719476720) → 0 ≤ sumQ l ∧ sumQ l ≤ l.length * 68719476720
  | [], _ => by decide
  | x :: l, h => by
    have h1 := h x (List.mem_cons_self ..)
    have h2 := sumQ_rg l fun y hy => h y (List.mem_cons_of_mem _ hy)
    have e : sumQ (x :: l) = x.2 + sumQ l := by unfold sumQ; rw [List.map_cons, List.sum_cons]
    rw [e, List.length_cons]
    omega
theorem linesQ_rg {s : List Am} (h : OkR s) (c : Int) : ∀ x ∈ linesQ s c, 0 ≤ x.2 ∧ x.2 ≤ 68719476720 := fun x hx => by
  obtain ⟨m, -, rfl⟩ := List.mem_map.1 hx
  exact quaN_rg h c m
theorem items_len (s : List Am) (c : Int) : (itemsT s c).length ≤ (norm s).length := Nat.le_trans (nub_len _) (pick_len _ _)
theorem linesQ_len (s : List Am) (c : Int) : (linesQ s c).length ≤ (norm s).length := by unfold linesQ; rw [List.length_map]; exact items_len s c
/-! Lists of carts that increase. -/
theorem inc_ext : ∀ {l m : List Int}, l.Pairwise (· < ·) → m.Pairwise (· < ·) → (∀ x, x ∈ l ↔ x ∈ m) → l = m
  | [], [], _, _, _ => rfl
  | [], y :: m, _, _, h => absurd ((h y).2 (List.mem_cons_self ..)) (List.not_mem_nil)
  | x :: l, [], _, _, h => absurd ((h x).1 (List.mem_cons_self ..)) (List.not_mem_nil)
  | x :: l, y :: m, hl, hm, h => by
    have l1 := (List.pairwise_cons.1 hl).1
    have m1 := (List.pairwise_cons.1 hm).1
    have e : x = y := by
      have h1 := (h x).1 (List.mem_cons_self ..)
      have h2 := (h y).2 (List.mem_cons_self ..)
      rcases List.mem_cons.1 h1 with e | e
      · exact e
      · rcases List.mem_cons.1 h2 with e2 | e2
        · exact e2.symm
        · have := m1 x e; have := l1 y e2; omega
    subst e
    rw [inc_ext (List.pairwise_cons.1 hl).2 (List.pairwise_cons.1 hm).2 fun z => ?_]
    constructor
    · intro hz
      have := l1 z hz
      rcases List.mem_cons.1 ((h z).1 (List.mem_cons_of_mem _ hz)) with e | e
      · omega
      · exact e
    · intro hz
      have := m1 z hz
      rcases List.mem_cons.1 ((h z).2 (List.mem_cons_of_mem _ hz)) with e | e
      · omega
      · exact e
theorem range_inc : ∀ n : Nat, ((List.range n).map Int.ofNat).Pairwise (· < ·)
  | n => by
    rw [List.pairwise_map]
    exact (List.pairwise_lt_range).imp fun h => by show (_ : Int) < _; simpa using h
theorem cartsQ_inc (s : List Am) : (cartsQ s).Pairwise (· < ·) := (range_inc 65536).filter _
theorem hasQ_iff (l : List Am) (c : Int) : hasQ l c = true ↔ ∃ x ∈ l, fullB x = true ∧ x.k.c = c := by
  unfold hasQ
  rw [List.any_eq_true]
  simp only [Bool.and_eq_true, decide_eq_true_eq]
theorem cartsQ_mem {s : List Am} (h : OkR s) (c : Int) : c ∈ cartsQ s ↔ ∃ x ∈ norm s, fullB x = true ∧ x.k.c = c := by
  unfold cartsQ
  rw [List.mem_filter, hasQ_iff]
  constructor
  · exact fun e => e.2
  · rintro ⟨x, hx, hf, rfl⟩
    refine ⟨?_, x, hx, hf, rfl⟩
    have hk := ((norm_st h).ok x hx).k
    have h0 := hk.c0
    have h1 := hk.c1
    rw [List.mem_map]
    exact ⟨x.k.c.toNat, by rw [List.mem_range]; omega, by show (x.k.c.toNat : Int) = _; omega⟩
/-! The next cart, by a walk. -/
/-! The laws. -/
theorem lines_norm {s t : List Am} (e : norm s = norm t) (c : Int) : linesQ s c = linesQ t c := by
  unfold linesQ quaN presT tot itemsT
  rw [e]
theorem note_norm {s t : List Am} (hs : OkR s) (ht : OkR t) (e : norm s = norm t) (c : Int) : noteT s c = noteT t c := by
  unfold noteT noteV
  rw [← fnd_norm hs, ← fnd_norm ht, e]
theorem join_other {a b : List Am} (ha : OkR a) (hb : OkR b) : norm (b ++ a) = norm (join a b) := by
  rw [norm_id (join_st ha hb)]
  exact (law_comm ha hb).symm
theorem up_ext2 {F G : Ky → Int} {c : Int} {m : List Int} (h : ∀ k, (k.s = 2 ∨ k.s = 3) → k.c = c → F k = G k) : ∀ n, up F c m n = up G c m n
  | 0 => rfl
  | n + 1 => by rw [up, up, up_ext2 h n, h _ (.inl rfl) rfl, h _ (.inr rfl) rfl]
theorem gt_apart {a b : List Am} (ha : OkR a) (hb : OkR b) {c : Int} (h : ∀ x ∈ norm b, x.k.c ≠ c) (k : Ky) (hk : k.c = c) : gt (join a b) k = gt a k := by
  have e : gt b k = none := by
    rw [← fnd_norm hb]
    cases e : fnd (norm b) k with
    | none => rfl
    | some v => exact absurd hk (h _ (fnd_mem e))
  refine rk_inj ((gt_ok (join_st ha hb).ok).o k) ((gt_ok ha).o k) ?_
  rw [rk_join ha hb, e, rk_none]
  have := rk_ge ((gt_ok ha).o k)
  omega
theorem lines_apart {a b : List Am} (ha : OkR a) (hb : OkR b) {c : Int} (h : ∀ x ∈ norm b, x.k.c ≠ c) : linesQ (join a b) c = linesQ a c := by
  have hj := (join_st ha hb).ok
  have e1 : itemsT (join a b) c = itemsT a c := items_ext hj ha fun k _ hk => gt_apart ha hb h k hk
  have e2 : ∀ m, tot (join a b) c m = tot a c m := fun m => by
    rw [tot_is hj, tot_is ha]
    exact up_ext2 (fun k _ hk => by unfold hn; rw [gt_apart ha hb h k hk]) 16
  have e3 : ∀ m, presT (join a b) c m = presT a c m := fun m => by
    rw [Bool.eq_iff_iff, presT_iff hj, presT_iff ha]
    constructor
    · rintro ⟨k, v, h1, h2, h3, h4, h5⟩
      exact ⟨k, v, h1, h2, h3, by rw [← gt_apart ha hb h k h2]; exact h4, h5⟩
    · rintro ⟨k, v, h1, h2, h3, h4, h5⟩
      exact ⟨k, v, h1, h2, h3, by rw [gt_apart ha hb h k h2]; exact h4, h5⟩
  unfold linesQ quaN
  rw [e1]
  refine List.map_congr_left fun m _ => ?_
  rw [e2, e3]
theorem note_apart {a b : List Am} (ha : OkR a) (hb : OkR b) {c : Int} (h : ∀ x ∈ norm b, x.k.c ≠ c) : noteT (join a b) c = noteT a c := by
  unfold noteT noteV
  rw [gt_apart ha hb h (noteK c) rfl]
theorem set_carts {s : List Am} (h : OkR s) {l : List Int} (hl : l.Pairwise (· < ·)) (hm : ∀ c, c ∈ l ↔ ∃ x ∈ norm s, fullB x = true ∧ x.k.c = c) : l = cartsQ s :=
  inc_ext hl (cartsQ_inc s) fun c => by rw [hm, cartsQ_mem h]
theorem sorted_inc {l : List Int} (h : l.Pairwise (· ≤ ·)) (hn : l.Nodup) : l.Pairwise (· < ·) := (h.and hn).imp fun h => by omega
end Go.Proofs.YtijfbhdbfplghaaGreat
namespace Go.Proofs.YtijfbhdbfplghaaGreat
def onC (c : Int) (s : List Am) : List Am := s.filter fun x => decide (x.k.c = c)
def onM (m : List Int) (s : List Am) : List Am := s.filter fun x => decide (x.k.m = m)
theorem onC_snoc (c : Int) (s : List Am) (x : Am) : onC c (s ++ [x]) = if x.k.c = c then onC c s ++ [x] else onC c s := by
  unfold onC
  rw [List.filter_append]
  by_cases h : x.k.c = c
  · rw [if_pos h, List.filter_cons_of_pos (by simp [h])]; rfl
  · rw [if_neg h, List.filter_cons_of_neg (by simp [h])]; simp
theorem fil_ok {s : List Am} (h : OkR s) (p : Am → Bool) : OkR (s.filter p) := h.sub fun _ ha => (List.mem_filter.1 ha).1
theorem onC_ok {s : List Am} (h : OkR s) (c : Int) : OkR (onC c s) := fil_ok h _
theorem onM_ok {s : List Am} (h : OkR s) (m : List Int) : OkR (onM m s) := fil_ok h _
theorem onC_len (c : Int) (s : List Am) : (onC c s).length ≤ s.length := List.length_filter_le ..
theorem rk_fil (q : Ky → Bool) (k : Ky) (hq : q k = true) : ∀ {l : List Am}, OkR l → rk (gt (l.filter fun x => q x.k) k) = rk (gt l k)
  | [], _ => rfl
  | a :: l, h => by
    have ih := rk_fil q k hq h.tail
    rw [gt_cons h.head h.tail]
    by_cases ha : q a.k = true
    · rw [List.filter_cons_of_pos (p := fun x : Am => q x.k) (by exact ha), gt_cons h.head (fil_ok h.tail _), ih]
    · rw [List.filter_cons_of_neg (p := fun x : Am => q x.k) (by exact ha), ih, if_neg (fun e => ha (by rw [e.2]; exact hq))]
      have := rk_ge ((gt_ok h.tail).o k)
      omega
theorem gt_fil (q : Ky → Bool) {k : Ky} (hq : q k = true) {l : List Am} (h : OkR l) : gt (l.filter fun x => q x.k) k = gt l k :=
  rk_inj ((gt_ok (fil_ok h _)).o k) ((gt_ok h).o k) (rk_fil q k hq h)
theorem gt_onC {s : List Am} (h : OkR s) {c : Int} {k : Ky} (hk : k.c = c) : gt (onC c s) k = gt s k := gt_fil (fun k => decide (k.c = c)) (by simp [hk]) h
theorem gt_onM {s : List Am} (h : OkR s) {m : List Int} {k : Ky} (hk : k.m = m) : gt (onM m s) k = gt s k := gt_fil (fun k => decide (k.m = m)) (by simp [hk]) h
theorem up_ext3 {F G : Ky → Int} {c : Int} {m : List Int} (h : ∀ k, (k.s = 2 ∨ k.s = 3) → k.c = c → k.m = m → F k = G k) : ∀ n, up F c m n = up G c m n
  | 0 => rfl
  | n + 1 => by rw [up, up, up_ext3 h n, h _ (.inl rfl) rfl rfl, h _ (.inr rfl) rfl rfl]
theorem qua_ext {s t : List Am} (hs : OkR s) (ht : OkR t) {c : Int} {m : List Int} (h : ∀ k, k.c = c → k.m = m → gt s k = gt t k) : quaN s c m = quaN t c m ∧ presT s c m = presT t c m ∧ tot s c m = tot t c m := by
  have e1 : tot s c m = tot t c m := by
    rw [tot_is hs, tot_is ht]
    exact up_ext3 (fun k _ h1 h2 => by unfold hn; rw [h k h1 h2]) 16
  have e2 : presT s c m = presT t c m := by
    rw [Bool.eq_iff_iff, presT_iff hs, presT_iff ht]
    constructor
    · rintro ⟨k, v, h1, h2, h3, h4, h5⟩
      exact ⟨k, v, h1, h2, h3, by rw [← h k h2 h3]; exact h4, h5⟩
    · rintro ⟨k, v, h1, h2, h3, h4, h5⟩
      exact ⟨k, v, h1, h2, h3, by rw [h k h2 h3]; exact h4, h5⟩
  refine ⟨?_, e2, e1⟩
  unfold quaN
  rw [e1, e2]
theorem qua_onC {s : List Am} (h : OkR s) (c : Int) (m : List Int) : quaN (onC c s) c m = quaN s c m := (qua_ext (onC_ok h c) h fun _ h1 _ => gt_onC h h1).1
theorem pres_onC {s : List Am} (h : OkR s) (c : Int) (m : List Int) : presT (onC c s) c m = presT s c m := (qua_ext (onC_ok h c) h fun _ h1 _ => gt_onC h h1).2.1
theorem qua_onM {s : List Am} (h : OkR s) (c : Int) (m : List Int) : quaN (onM m s) c m = quaN s c m := (qua_ext (onM_ok h m) h fun _ _ h2 => gt_onM h h2).1
theorem items_onC {s : List Am} (h : OkR s) (c : Int) : itemsT (onC c s) c = itemsT s c := items_ext (onC_ok h c) h fun _ _ h1 => gt_onC h h1
theorem lines_onC {s : List Am} (h : OkR s) (c : Int) : linesQ (onC c s) c = linesQ s c := by
  unfold linesQ
  rw [items_onC h]
  exact List.map_congr_left fun m _ => by rw [qua_onC h]
theorem note_onC {s : List Am} (h : OkR s) (c : Int) : noteT (onC c s) c = noteT s c := by
  unfold noteT noteV
  rw [gt_onC (c := c) (k := noteK c) h rfl]
/-- The quantity that is looked up among the atoms of an item. -/
theorem qua_look {s : List Am} (h : OkR s) (c : Int) (m : List Int) : quaN (onM m (onC c s)) c m = quaN s c m := by rw [qua_onM (onC_ok h c), qua_onC h]
/-! Which carts there are. -/
def fullQ (s : List Am) (c : Int) : Bool := decide (0 < (linesQ s c).length) || !(noteT s c == M.zero8)
theorem full_onC {s : List Am} (h : OkR s) (c : Int) : fullQ (onC c s) c = fullQ s c := by unfold fullQ; rw [lines_onC h, note_onC h]
theorem nub_zero {l : List Ky} (h : nub l = []) : l = [] := by
  have key : ∀ (l : List Ky) (out : List (List Int)), out.length ≤ (l.foldl nubF out).length := fun l => by
    induction l with
    | nil => exact fun _ => Nat.le_refl _
    | cons k l ih =>
      intro out
      have := ih (nubF out k)
      have h2 : out.length ≤ (nubF out k).length := by unfold nubF; split <;> simp
      exact Nat.le_trans h2 this
  cases l with
  | nil => rfl
  | cons k l =>
    have := key l (nubF [] k)
    unfold nub at h
    rw [List.foldl_cons] at h
    rw [h] at this
    simp [nubF] at this
theorem items_some (s : List Am) (c : Int) : 0 < (itemsT s c).length ↔ ∃ x ∈ norm s, x.k.s = 1 ∧ x.v.n = 1 ∧ x.k.c = c := by
  constructor
  · intro h0
    rcases Nat.eq_zero_or_pos (pick (pth (pin c)) (norm s)).length with e | e
    · have := List.length_eq_zero_iff.1 e
      unfold itemsT at h0
      rw [this] at h0
      cases h0
    · obtain ⟨k, hk⟩ := List.exists_mem_of_length_pos e
      obtain ⟨x, hx, rfl⟩ := List.mem_map.1 hk
      obtain ⟨hx, hp⟩ := List.mem_filter.1 hx
      simp [sel, pth, pin] at hp
      exact ⟨x, hx, hp.1, hp.2.1, hp.2.2⟩
  · rintro ⟨x, hx, h1, h2, h3⟩
    rcases Nat.eq_zero_or_pos (itemsT s c).length with e | e
    · have := nub_zero (List.length_eq_zero_iff.1 e)
      have hm : x.k ∈ pick (pth (pin c)) (norm s) := List.mem_map.2 ⟨x, List.mem_filter.2 ⟨hx, by simp [sel, pth, pin, h1, h2, h3]⟩, rfl⟩
      rw [this] at hm
      cases hm
    · exact e
theorem note_some {s : List Am} (h : OkR s) (c : Int) : (noteT s c ≠ M.zero8) ↔ ∃ x ∈ norm s, x.k.s = 4 ∧ x.v.t ≠ M.zero8 ∧ x.k.c = c := by
  have hs := norm_st h
  unfold noteT noteV
  rw [← fnd_norm h]
  constructor
  · intro h1
    cases e : fnd (norm s) (noteK c) with
    | none => rw [e] at h1; exact absurd rfl h1
    | some v =>
      rw [e] at h1
      exact ⟨_, fnd_mem e, rfl, h1, rfl⟩
  · rintro ⟨x, hx, h1, h2, h3⟩
    have hk : x.k = noteK c := by rw [(right_note (am_right_k (hs.rt x hx))).1 h1, h3]
    have e : fnd (norm s) (noteK c) = some x.v := (fnd_iff hs).2 (by rw [← hk]; exact hx)
    rw [e]
    exact h2
theorem full_iff {s : List Am} (h : OkR s) (c : Int) : fullQ s c = true ↔ ∃ x ∈ norm s, fullB x = true ∧ x.k.c = c := by
  unfold fullQ
  rw [Bool.or_eq_true, decide_eq_true_eq, linesQ, List.length_map, items_some, Bool.not_eq_true', beq_eq_false_iff_ne, note_some h]
  constructor
  · rintro (⟨x, hx, h1, h2, h3⟩ | ⟨x, hx, h1, h2, h3⟩)
    · exact ⟨x, hx, by simp [fullB, h1, h2], h3⟩
    · exact ⟨x, hx, by simp [fullB, h1, h2], h3⟩
  · rintro ⟨x, hx, h1, h3⟩
    simp [fullB] at h1
    rcases h1 with h1 | h1
    · exact .inl ⟨x, hx, h1.1, h1.2, h3⟩
    · exact .inr ⟨x, hx, h1.1, h1.2, h3⟩
/-- A cart that is read full has an atom in the row. -/
theorem full_in {s : List Am} (h : OkR s) {c : Int} (hc : fullQ s c = true) : ∃ x ∈ s, x.k.c = c := by
  by_cases hx : ∃ x ∈ s, x.k.c = c
  · exact hx
  · exfalso
    have e : onC c s = [] := List.filter_eq_nil_iff.2 fun x hm => by simpa using fun e => hx ⟨x, hm, e⟩
    rw [← full_onC h, e] at hc
    obtain ⟨x, hx, -⟩ := (full_iff okR_nil c).1 hc
    cases hx
/-- The carts of a row, in any increasing order of all, cut to those that are read full. -/
theorem carts_cut {s : List Am} (h : OkR s) {l : List Int} (hl : l.Pairwise (· < ·)) (hm : ∀ c, c ∈ l ↔ ∃ x ∈ s, x.k.c = c) : l.filter (fullQ s) = cartsQ s := by
  refine set_carts h (hl.filter _) fun c => ?_
  rw [List.mem_filter, full_iff h]
  constructor
  · exact fun e => e.2
  · intro e
    exact ⟨(hm c).2 (full_in h ((full_iff h c).2 e)), e⟩
end Go.Proofs.YtijfbhdbfplghaaGreat
