/- States of atoms as lists: the state of a row, joins, meets and their order; no program in this text. Parts and differences of states, and needless rows, as lists; no program in this text. -/
import Derived.Test.YtnpbmihbmilkbaaGreatG01
namespace Go.Proofs.YtnpbmihbmilkbaaGreat
/-- The number of a key: keys are ordered as their numbers. -/
def Ky.kn (k : Ky) : Int := (k.w0 * 18446744073709551616 + k.w1) * 18446744073709551616 + k.w2
theorem kn_inj {a b : Ky} (ha : a.Ok) (hb : b.Ok) (h : a.kn = b.kn) : a = b := by
  have := ha.w0r; have := ha.w1r; have := ha.w2r; have := hb.w0r; have := hb.w1r; have := hb.w2r
  unfold Ky.kn at h
  exact words_inj ha hb (by omega) (by omega) (by omega)
theorem less_kn {a b : Ky} (ha : a.Ok) (hb : b.Ok) : a.less b = decide (a.kn < b.kn) := by
  have := ha.w0r; have := ha.w1r; have := ha.w2r; have := hb.w0r; have := hb.w1r; have := hb.w2r
  unfold Ky.less less3 Ky.kn
  split
  · exact decide_eq_decide.2 (by omega)
  · split
    · exact decide_eq_decide.2 (by omega)
    · exact decide_eq_decide.2 (by omega)
/-- The number of a value: values are ordered as their numbers. -/
def Vl.rn (v : Vl) : Int := v.n * 18446744073709551616 + M.num v.t
theorem Vl.Ok.tr {v : Vl} (h : v.Ok) : 0 ≤ M.num v.t ∧ M.num v.t < 18446744073709551616 := by
  have := M.num_range v.t h.tb
  rw [h.tl] at this
  exact this
theorem rn_inj {x y : Vl} (hx : x.Ok) (hy : y.Ok) (h : x.rn = y.rn) : x = y := by
  have := hx.tr; have := hy.tr
  unfold Vl.rn at h
  have e1 : x.n = y.n := by omega
  have e2 : M.num x.t = M.num y.t := by omega
  have e3 := M.num_inj x.t y.t hx.tb hy.tb (by rw [hx.tl, hy.tl]) e2
  obtain ⟨n, t⟩ := x
  obtain ⟨n', t'⟩ := y
  simp only at e1 e3
  rw [e1, e3]
theorem over_rn {x y : Vl} (hx : x.Ok) (hy : y.Ok) : over x y = decide (y.rn ≤ x.rn) := by
  have := hx.tr; have := hy.tr
  unfold over Vl.rn
  split
  · exact decide_eq_decide.2 (by omega)
  · exact decide_eq_decide.2 (by omega)
theorem rn_pos {x : Vl} (hx : x.Ok) : 0 ≤ x.rn := by
  have := hx.tr; have := hx.n0
  unfold Vl.rn; omega
theorem rn_zero : vzero.rn = 0 := by decide
theorem more_rn {x y : Vl} (hx : x.Ok) (hy : y.Ok) : (more x y).rn = max x.rn y.rn := by
  unfold more
  rw [over_rn hx hy]
  by_cases h : y.rn ≤ x.rn
  · simp [h]; omega
  · simp [h]; omega
/-- The one of two values that the other is over. -/
def under (x y : Vl) : Vl := if over x y = true then y else x
/-! What a state has at a key. -/
def rk : Option Vl → Int
  | none => -1
  | some v => v.rn
def OkO (o : Option Vl) : Prop := ∀ v, o = some v → v.Ok
theorem ok_none : OkO none := fun _ h => by cases h
theorem rk_some (v : Vl) : rk (some v) = v.rn := rfl
theorem rk_none : rk none = -1 := rfl
theorem rk_ge {x : Option Vl} (hx : OkO x) : -1 ≤ rk x := by
  cases x with
  | none => exact Int.le_refl _
  | some v => have := rn_pos (hx v rfl); show -1 ≤ v.rn; omega
theorem rk_inj {x y : Option Vl} (hx : OkO x) (hy : OkO y) (h : rk x = rk y) : x = y := by
  cases x with
  | none =>
    cases y with
    | none => rfl
    | some v => have := rn_pos (hy v rfl); simp only [rk] at h; omega
  | some u =>
    cases y with
    | none => have := rn_pos (hx u rfl); simp only [rk] at h; omega
    | some v => rw [rn_inj (hx u rfl) (hy v rfl) h]
def OkR (l : List Am) : Prop := ∀ a ∈ l, a.Ok
theorem okR_nil : OkR [] := fun _ h => by cases h
theorem OkR.cons {a : Am} {l : List Am} (ha : a.Ok) (hl : OkR l) : OkR (a :: l) := fun b hb => by
  rcases List.mem_cons.1 hb with rfl | hb
  · exact ha
  · exact hl b hb
theorem OkR.head {a : Am} {l : List Am} (h : OkR (a :: l)) : a.Ok := h a (List.mem_cons_self ..)
theorem OkR.tail {a : Am} {l : List Am} (h : OkR (a :: l)) : OkR l := fun b hb => h b (List.mem_cons_of_mem _ hb)
theorem OkR.app {l m : List Am} (hl : OkR l) (hm : OkR m) : OkR (l ++ m) := fun b hb => by
  rcases List.mem_append.1 hb with h | h
  · exact hl b h
  · exact hm b h
theorem OkR.sub {l m : List Am} (h : OkR l) (hs : ∀ a ∈ m, a ∈ l) : OkR m := fun a ha => h a (hs a ha)
/-! Rows, collected atom by atom. -/
def best (o : Option Vl) (v : Vl) : Vl := more v (o.getD vzero)
theorem getD_ok {o : Option Vl} (h : OkO o) : (o.getD vzero).Ok := by
  cases o with
  | none => exact vzero_ok
  | some v => exact h v rfl
theorem best_ok {o : Option Vl} {v : Vl} (ho : OkO o) (hv : v.Ok) : (best o v).Ok := more_ok hv (getD_ok ho)
theorem best_rn {o : Option Vl} {v : Vl} (ho : OkO o) (hv : v.Ok) : (best o v).rn = max (rk o) v.rn := by
  unfold best
  rw [more_rn hv (getD_ok ho)]
  have := rn_pos hv
  cases o with
  | none => show max v.rn vzero.rn = max (-1) v.rn; rw [rn_zero]; omega
  | some u => show max v.rn u.rn = max u.rn v.rn; omega
def upd (f : Ky → Option Vl) (k : Ky) (v : Vl) : Ky → Option Vl := fun x => if x = k then some v else f x
def step (f : Ky → Option Vl) (a : Am) : Ky → Option Vl := if a.right = true then upd f a.k (best (f a.k) a.v) else f
def col (f : Ky → Option Vl) (l : List Am) : Ky → Option Vl := l.foldl step f
def none_ : Ky → Option Vl := fun _ => none
def gt (l : List Am) : Ky → Option Vl := col none_ l
/-- What a map of keys and values may hold. -/
structure OkF (f : Ky → Option Vl) : Prop where
  k : ∀ k v, f k = some v → k.Ok
  v : ∀ k v, f k = some v → v.Ok
  r : ∀ k v, f k = some v → (⟨k, v⟩ : Am).right = true
theorem OkF.o {f : Ky → Option Vl} (h : OkF f) (k : Ky) : OkO (f k) := fun v e => h.v k v e
theorem okF_none : OkF none_ := ⟨fun _ _ h => (by cases h), fun _ _ h => (by cases h), fun _ _ h => (by cases h)⟩
theorem right_swap {k : Ky} {x y z : Vl} (hx : (⟨k, x⟩ : Am).right = true) (hy : (⟨k, y⟩ : Am).right = true) (hz : z = x ∨ z = y) : (⟨k, z⟩ : Am).right = true := by
  rcases hz with rfl | rfl <;> assumption
theorem best_one {f : Ky → Option Vl} {a : Am} (ha : a.Ok) : best (f a.k) a.v = a.v ∨ f a.k = some (best (f a.k) a.v) := by
  have h2 := more_one a.v ((f a.k).getD vzero)
  cases e : f a.k with
  | none =>
    left
    have h1 := best_rn ok_none ha.v
    refine rn_inj (best_ok ok_none ha.v) ha.v ?_
    rw [h1, rk_none]
    have := rn_pos ha.v
    omega
  | some u =>
    rw [e] at h2
    unfold best
    simp only [Option.getD_some] at *
    rcases h2 with h | h
    · exact .inl h
    · exact .inr (by rw [h])
theorem step_ok {f : Ky → Option Vl} (hf : OkF f) {a : Am} (ha : a.Ok) : OkF (step f a) := by
  unfold step
  split
  · rename_i hr
    have hw : ∀ k v, upd f a.k (best (f a.k) a.v) k = some v → k.Ok ∧ v.Ok ∧ (⟨k, v⟩ : Am).right = true := by
      intro k v h
      unfold upd at h
      split at h
      · rename_i hk
        cases h
        subst hk
        refine ⟨ha.k, best_ok (hf.o _) ha.v, ?_⟩
        rcases best_one (f := f) ha with e | e
        · rw [e]; exact hr
        · exact hf.r _ _ e
      · exact ⟨hf.k k v h, hf.v k v h, hf.r k v h⟩
    exact ⟨fun k v h => (hw k v h).1, fun k v h => (hw k v h).2.1, fun k v h => (hw k v h).2.2⟩
  · exact hf
theorem col_ok : ∀ (l : List Am) {f : Ky → Option Vl}, OkF f → OkR l → OkF (col f l)
  | [], _, hf, _ => hf
  | _ :: l, _, hf, hl => col_ok l (step_ok hf hl.head) hl.tail
theorem gt_ok {l : List Am} (h : OkR l) : OkF (gt l) := col_ok l okF_none h
theorem rk_step {f : Ky → Option Vl} (hf : OkF f) {a : Am} (ha : a.Ok) (k : Ky) : rk (step f a k) = max (rk (f k)) (if a.right = true ∧ a.k = k then a.v.rn else -1) := by
  have := rk_ge (hf.o k)
  unfold step
  by_cases hr : a.right = true
  · rw [if_pos hr]
    unfold upd
    by_cases hk : a.k = k
    · rw [if_pos hk.symm, if_pos ⟨hr, hk⟩, rk_some, best_rn (hf.o _) ha.v, hk]
    · rw [if_neg (fun e => hk e.symm), if_neg (fun e => hk e.2)]
      omega
  · rw [if_neg hr, if_neg (fun e => hr e.1)]
    omega
theorem col_cons (f : Ky → Option Vl) (a : Am) (l : List Am) : col f (a :: l) = col (step f a) l := rfl
theorem col_app (f : Ky → Option Vl) (l m : List Am) : col f (l ++ m) = col (col f l) m := List.foldl_append ..
theorem col_snoc (f : Ky → Option Vl) (l : List Am) (a : Am) : col f (l ++ [a]) = step (col f l) a := col_app f l [a]
theorem rk_col (k : Ky) : ∀ (l : List Am) {f : Ky → Option Vl}, OkF f → OkR l → rk (col f l k) = max (rk (f k)) (rk (gt l k))
  | [], f, hf, _ => by
    have := rk_ge (hf.o k)
    show rk (f k) = max (rk (f k)) (-1)
    omega
  | a :: l, f, hf, hl => by
    have h1 := rk_col k l (step_ok hf hl.head) hl.tail
    have h2 := rk_col k l (step_ok okF_none hl.head) hl.tail
    have h3 := rk_step hf hl.head k
    have h4 := rk_step okF_none hl.head k
    have h5 := rk_ge (hf.o k)
    have e : rk (none_ k) = -1 := rfl
    unfold gt at *
    rw [col_cons, col_cons, h1, h2, h3, h4, e]
    omega
theorem gt_cons {a : Am} {l : List Am} (ha : a.Ok) (hl : OkR l) (k : Ky) : rk (gt (a :: l) k) = max (if a.right = true ∧ a.k = k then a.v.rn else -1) (rk (gt l k)) := by
  have h2 := rk_col k l (step_ok okF_none ha) hl
  have h4 := rk_step okF_none ha k
  have e : rk (none_ k) = -1 := rfl
  have h5 : -1 ≤ (if a.right = true ∧ a.k = k then a.v.rn else -1) := by
    split
    · have := rn_pos ha.v; omega
    · omega
  show rk (col (step none_ a) l k) = _
  rw [h2, h4, e]
  omega
def only (l : List Am) (k : Ky) : List Am := l.filter (fun a => decide (a.k = k))
/-! States. -/
def fnd : List Am → Ky → Option Vl
  | [], _ => none
  | a :: s, k => if a.k = k then some a.v else fnd s k
def Srt (s : List Am) : Prop := s.Pairwise (fun a b => a.k.kn < b.k.kn)
structure St (s : List Am) : Prop where
  ok : OkR s
  rt : ∀ a ∈ s, a.right = true
  so : Srt s
theorem st_nil : St [] := ⟨okR_nil, fun _ h => (by cases h), List.Pairwise.nil⟩
theorem St.tail {a : Am} {s : List Am} (h : St (a :: s)) : St s := ⟨h.ok.tail, fun b hb => h.rt b (List.mem_cons_of_mem _ hb), (List.pairwise_cons.1 h.so).2⟩
theorem St.low {a : Am} {s : List Am} (h : St (a :: s)) : ∀ b ∈ s, a.k.kn < b.k.kn := (List.pairwise_cons.1 h.so).1
theorem St.cons {a : Am} {s : List Am} (ha : a.Ok) (hr : a.right = true) (hl : ∀ b ∈ s, a.k.kn < b.k.kn) (h : St s) : St (a :: s) :=
  ⟨h.ok.cons ha, fun b hb => by rcases List.mem_cons.1 hb with rfl | hb; exact hr; exact h.rt b hb, List.pairwise_cons.2 ⟨hl, h.so⟩⟩
theorem fnd_mem : ∀ {s : List Am} {k : Ky} {v : Vl}, fnd s k = some v → (⟨k, v⟩ : Am) ∈ s
  | a :: s, k, v, h => by
    unfold fnd at h
    split at h
    · rename_i hk; cases h; subst hk; exact List.mem_cons_self ..
    · exact List.mem_cons_of_mem _ (fnd_mem h)
theorem fnd_ok {s : List Am} (h : OkR s) (k : Ky) : OkO (fnd s k) := fun _ e => (h _ (fnd_mem e)).v
theorem fnd_low : ∀ {s : List Am} {k : Ky}, (∀ b ∈ s, k.kn < b.k.kn) → fnd s k = none
  | [], _, _ => rfl
  | a :: s, k, h => by
    unfold fnd
    rw [if_neg (fun e => by have := h a (List.mem_cons_self ..); rw [e] at this; omega)]
    exact fnd_low (fun b hb => h b (List.mem_cons_of_mem _ hb))
theorem fnd_of_mem : ∀ {s : List Am}, St s → ∀ {a : Am}, a ∈ s → fnd s a.k = some a.v
  | b :: s, h, a, ha => by
    unfold fnd
    rcases List.mem_cons.1 ha with rfl | ha
    · rw [if_pos rfl]
    · have := h.low a ha
      rw [if_neg (fun e => by rw [e] at this; omega)]
      exact fnd_of_mem h.tail ha
theorem st_ext : ∀ {s t : List Am}, St s → St t → (∀ k, fnd s k = fnd t k) → s = t
  | [], [], _, _, _ => rfl
  | [], b :: t, _, _, h => by have := h b.k; simp [fnd] at this
  | a :: s, [], _, _, h => by have := h a.k; simp [fnd] at this
  | a :: s, b :: t, hs, ht, h => by
    have key : a.k = b.k := by
      rcases Int.lt_trichotomy a.k.kn b.k.kn with hl | he | hl
      · have e := h a.k
        rw [fnd_low (s := b :: t) (fun c hc => by
          rcases List.mem_cons.1 hc with rfl | hc
          · exact hl
          · exact Int.lt_trans hl (ht.low c hc))] at e
        simp [fnd] at e
      · exact kn_inj (hs.ok.head).k (ht.ok.head).k he
      · have e := h b.k
        rw [fnd_low (s := a :: s) (fun c hc => by
          rcases List.mem_cons.1 hc with rfl | hc
          · exact hl
          · exact Int.lt_trans hl (hs.low c hc))] at e
        simp [fnd] at e
    have val : a.v = b.v := by
      have e := h a.k
      rw [fnd_of_mem hs (List.mem_cons_self ..), key, fnd_of_mem ht (List.mem_cons_self ..)] at e
      exact Option.some.inj e
    have tl : s = t := st_ext hs.tail ht.tail (fun k => by
      by_cases hk : a.k = k
      · rw [fnd_low (hk ▸ hs.low), fnd_low (hk ▸ key ▸ ht.low)]
      · have e := h k
        unfold fnd at e
        rwa [if_neg hk, if_neg (fun e => hk (key.trans e))] at e)
    obtain ⟨k, v⟩ := a
    obtain ⟨k', v'⟩ := b
    simp only at key val
    rw [key, val, tl]
theorem gt_st : ∀ {s : List Am}, St s → ∀ k, gt s k = fnd s k := by
  intro s hs k
  refine rk_inj ((gt_ok hs.ok).o k) (fnd_ok hs.ok k) ?_
  induction s with
  | nil => rfl
  | cons a s ih =>
    rw [gt_cons hs.ok.head hs.tail.ok, ih hs.tail]
    show _ = rk (if a.k = k then some a.v else fnd s k)
    by_cases hk : a.k = k
    · rw [if_pos ⟨hs.rt a (List.mem_cons_self ..), hk⟩, if_pos hk, fnd_low (hk ▸ hs.low), rk_none, rk_some]
      have := rn_pos (hs.ok.head).v
      omega
    · rw [if_neg (fun e => hk e.2), if_neg hk]
      have := rk_ge (fnd_ok hs.tail.ok k)
      omega
/-! An atom, put where it belongs. -/
def put : List Am → Am → List Am
  | [], a => [a]
  | x :: s, a => if x.k = a.k then ⟨a.k, more x.v a.v⟩ :: s else if a.k.less x.k = true then a :: x :: s else x :: put s a
theorem put_mem : ∀ {s : List Am} {a b : Am}, b ∈ put s a → b.k = a.k ∨ b ∈ s
  | [], a, b, h => by obtain rfl := List.mem_singleton.1 h; exact .inl rfl
  | x :: s, a, b, h => by
    unfold put at h
    split at h
    · rcases List.mem_cons.1 h with rfl | h
      · exact .inl rfl
      · exact .inr (List.mem_cons_of_mem _ h)
    · split at h
      · rcases List.mem_cons.1 h with rfl | h
        · exact .inl rfl
        · exact .inr h
      · rcases List.mem_cons.1 h with rfl | h
        · exact .inr (List.mem_cons_self ..)
        · rcases put_mem h with h | h
          · exact .inl h
          · exact .inr (List.mem_cons_of_mem _ h)
theorem put_st : ∀ {s : List Am} {a : Am}, St s → a.Ok → a.right = true → St (put s a)
  | [], a, _, ha, hr => St.cons ha hr (fun _ h => by cases h) st_nil
  | x :: s, a, hs, ha, hr => by
    unfold put
    split
    · rename_i hk
      refine St.cons ⟨ha.k, more_ok (hs.ok.head).v ha.v⟩ ?_ ?_ hs.tail
      · refine right_swap (x := x.v) (y := a.v) ?_ hr (more_one x.v a.v)
        rw [← hk]; exact hs.rt x (List.mem_cons_self ..)
      · intro b hb; show a.k.kn < b.k.kn; rw [← hk]; exact hs.low b hb
    · rename_i hk
      split
      · rename_i hl
        rw [less_kn ha.k (hs.ok.head).k] at hl
        have hl := of_decide_eq_true hl
        refine St.cons ha hr ?_ hs
        intro b hb
        rcases List.mem_cons.1 hb with rfl | hb
        · exact hl
        · exact Int.lt_trans hl (hs.low b hb)
      · rename_i hl
        rw [less_kn ha.k (hs.ok.head).k] at hl
        have hl : ¬ a.k.kn < x.k.kn := fun e => hl (decide_eq_true e)
        have hlt : x.k.kn < a.k.kn := by
          rcases Int.lt_trichotomy a.k.kn x.k.kn with h | h | h
          · exact absurd h hl
          · exact absurd (kn_inj ha.k (hs.ok.head).k h).symm hk
          · exact h
        refine St.cons hs.ok.head (hs.rt x (List.mem_cons_self ..)) ?_ (put_st hs.tail ha hr)
        intro b hb
        rcases put_mem hb with h | h
        · rw [h]; exact hlt
        · exact hs.low b h
theorem rk_put : ∀ {s : List Am} {a : Am}, St s → a.Ok → ∀ k, rk (fnd (put s a) k) = if a.k = k then max (rk (fnd s k)) a.v.rn else rk (fnd s k)
  | [], a, _, ha, k => by
    show rk (if a.k = k then some a.v else none) = if a.k = k then max (-1) a.v.rn else -1
    split
    · have := rn_pos ha.v; rw [rk_some]; omega
    · rfl
  | x :: s, a, hs, ha, k => by
    have hx := hs.ok.head
    unfold put
    by_cases hk : x.k = a.k
    · rw [if_pos hk]
      by_cases h2 : a.k = k
      · simp only [fnd, h2, hk, if_true, rk]
        exact more_rn hx.v ha.v
      · simp only [fnd, h2, hk, if_false]
    · rw [if_neg hk]
      by_cases hl : a.k.less x.k = true
      · rw [if_pos hl]
        by_cases h2 : a.k = k
        · rw [less_kn ha.k hx.k] at hl
          have hl := of_decide_eq_true hl
          have hn : fnd (x :: s) k = none := fnd_low (fun b hb => by
            rcases List.mem_cons.1 hb with rfl | hb
            · rw [← h2]; exact hl
            · rw [← h2]; exact Int.lt_trans hl (hs.low b hb))
          rw [if_pos h2, hn]
          have := rn_pos ha.v
          simp only [fnd, h2, if_true, rk]
          omega
        · rw [if_neg h2]
          show rk (if a.k = k then some a.v else fnd (x :: s) k) = _
          rw [if_neg h2]
      · rw [if_neg hl]
        have ih := rk_put hs.tail ha k
        by_cases h3 : x.k = k
        · rw [if_neg (fun e => hk (h3.trans e.symm))]
          simp only [fnd, h3, if_true]
        · simp only [fnd, h3, if_false]
          exact ih
def putR (s : List Am) (a : Am) : List Am := if a.right = true then put s a else s
def norm (l : List Am) : List Am := l.foldl putR []
theorem norm_snoc (l : List Am) (a : Am) : norm (l ++ [a]) = putR (norm l) a := List.foldl_append ..
theorem norm_from : ∀ (l : List Am) {s : List Am}, OkR l → St s → St (l.foldl putR s) ∧ ∀ k, rk (fnd (l.foldl putR s) k) = max (rk (fnd s k)) (rk (gt l k))
  | [], s, _, hs => ⟨hs, fun k => by
      have := rk_ge (fnd_ok hs.ok k)
      show rk (fnd s k) = max (rk (fnd s k)) (-1)
      omega⟩
  | a :: l, s, hl, hs => by
    have hst : St (putR s a) ∧ ∀ k, rk (fnd (putR s a) k) = max (rk (fnd s k)) (if a.right = true ∧ a.k = k then a.v.rn else -1) := by
      unfold putR
      by_cases hr : a.right = true
      · rw [if_pos hr]
        refine ⟨put_st hs hl.head hr, fun k => ?_⟩
        rw [rk_put hs hl.head]
        have := rk_ge (fnd_ok hs.ok k)
        by_cases hk : a.k = k
        · rw [if_pos hk, if_pos ⟨hr, hk⟩]
        · rw [if_neg hk, if_neg (fun e => hk e.2)]; omega
      · rw [if_neg hr]
        refine ⟨hs, fun k => ?_⟩
        have := rk_ge (fnd_ok hs.ok k)
        rw [if_neg (fun e => hr e.1)]; omega
    obtain ⟨h1, h2⟩ := norm_from l hl.tail hst.1
    refine ⟨h1, fun k => ?_⟩
    show rk (fnd (l.foldl putR (putR s a)) k) = _
    rw [h2, hst.2, gt_cons hl.head hl.tail]
    omega
theorem norm_st {l : List Am} (h : OkR l) : St (norm l) := (norm_from l h st_nil).1
theorem fnd_norm {l : List Am} (h : OkR l) (k : Ky) : fnd (norm l) k = gt l k := by
  refine rk_inj (fnd_ok (norm_st h).ok k) ((gt_ok h).o k) ?_
  have := (norm_from l h st_nil).2 k
  have h2 := rk_ge ((gt_ok h).o k)
  have e : rk (fnd [] k) = -1 := rfl
  rw [e] at this
  unfold norm
  rw [this]
  omega
theorem norm_eq {s l : List Am} (hs : St s) (hl : OkR l) (h : ∀ k, rk (fnd s k) = rk (gt l k)) : s = norm l :=
  st_ext hs (norm_st hl) (fun k => by rw [fnd_norm hl]; exact rk_inj (fnd_ok hs.ok k) ((gt_ok hl).o k) (h k))
theorem norm_id {s : List Am} (hs : St s) : norm s = s := (norm_eq hs hs.ok (fun k => by rw [gt_st hs])).symm
/-! Is a row a state? -/
def okAt (s : List Am) (i : Nat) : Bool := (s.getD i azero).right && (decide (i = 0) || (s.getD (i - 1) azero).k.less (s.getD i azero).k)
def rightR (s : List Am) : Bool := (List.range s.length).all (okAt s)
theorem rightR_true {s : List Am} (h : ∀ i, i < s.length → okAt s i = true) : rightR s = true := by
  unfold rightR; rw [List.all_eq_true]; intro i hi; exact h i (List.mem_range.1 hi)
theorem rightR_false {s : List Am} {i : Nat} (hi : i < s.length) (h : okAt s i = false) : rightR s = false := by
  unfold rightR
  rw [List.all_eq_false]
  exact ⟨i, List.mem_range.2 hi, by rw [h]; simp⟩
theorem rightR_st {s : List Am} (h : OkR s) : rightR s = true ↔ St s := by
  have gd : ∀ i (hi : i < s.length), s.getD i azero = s[i] := fun i hi => by simp [List.getD, List.getElem?_eq_getElem hi]
  constructor
  · intro hr
    have hr : ∀ i, i < s.length → okAt s i = true := fun i hi => by
      unfold rightR at hr; rw [List.all_eq_true] at hr; exact hr i (List.mem_range.2 hi)
    refine ⟨h, fun a ha => ?_, ?_⟩
    · obtain ⟨i, hi, rfl⟩ := List.getElem_of_mem ha
      have := hr i hi
      unfold okAt at this
      rw [gd i hi] at this
      simp only [Bool.and_eq_true] at this
      exact this.1
    · have adj : ∀ i (hi : i + 1 < s.length), s[i].k.kn < s[i + 1].k.kn := fun i hi => by
        have := hr (i + 1) hi
        unfold okAt at this
        rw [gd (i + 1) hi, Nat.add_sub_cancel, gd i (by omega)] at this
        simp only [Bool.and_eq_true, Bool.or_eq_true, decide_eq_true_eq, Nat.succ_ne_zero, false_or] at this
        have h2 := this.2
        rw [less_kn (h _ (List.getElem_mem _)).k (h _ (List.getElem_mem _)).k] at h2
        exact of_decide_eq_true h2
      refine List.pairwise_iff_getElem.2 ?_
      intro i j hi hj hij
      induction j with
      | zero => omega
      | succ j ih =>
        have := adj j hj
        by_cases e : i = j
        · subst e; exact this
        · exact Int.lt_trans (ih (by omega) (by omega)) this
  · intro hs
    refine rightR_true (fun i hi => ?_)
    unfold okAt
    rw [gd i hi]
    simp only [Bool.and_eq_true, Bool.or_eq_true, decide_eq_true_eq]
    refine ⟨hs.rt _ (List.getElem_mem _), ?_⟩
    by_cases h0 : i = 0
    · exact .inl h0
    · refine .inr ?_
      rw [gd (i - 1) (by omega), less_kn (h _ (List.getElem_mem _)).k (h _ (List.getElem_mem _)).k]
      exact decide_eq_true (List.pairwise_iff_getElem.1 hs.so (i - 1) i (by omega) hi (by omega))
theorem norm_right {s : List Am} (h : OkR s) (hr : rightR s = true) : norm s = s := norm_id ((rightR_st h).1 hr)
/-! Joins and meets. -/
def merge : List Am → List Am → List Am
  | [], t => t
  | x :: s, [] => x :: s
  | x :: s, y :: t => if x.k.less y.k = true then x :: merge s (y :: t) else if y.k.less x.k = true then y :: merge (x :: s) t else ⟨x.k, more x.v y.v⟩ :: merge s t
termination_by s t => s.length + t.length
def meetA (f : Ky → Option Vl) (x : Am) : Option Am := (f x.k).map fun w => ⟨x.k, under x.v w⟩
def meetF (s : List Am) (f : Ky → Option Vl) : List Am := s.filterMap (meetA f)
def meet (a b : List Am) : List Am := meetF (norm a) (gt b)
theorem meetF_cons (x : Am) (s : List Am) (f : Ky → Option Vl) : meetF (x :: s) f = (match f x.k with | none => meetF s f | some w => ⟨x.k, under x.v w⟩ :: meetF s f) := by
  unfold meetF
  rw [List.filterMap_cons]
  unfold meetA
  cases f x.k <;> rfl
/-! The order. -/
def leA (f : Ky → Option Vl) (x : Am) : Bool := match f x.k with | none => false | some w => over w x.v
def leq (a b : List Am) : Bool := (norm a).all (leA (gt b))
def same (a b : List Am) : Bool := decide (norm a = norm b)
/-! The laws. -/
section
variable {a b c : List Am} (ha : OkR a) (hb : OkR b) (hc : OkR c)
include ha hb
include hc
end
theorem okR_flat {l : List (List Am)} (h : ∀ x ∈ l, OkR x) : OkR l.flatten := fun a ha => by
  obtain ⟨x, hx, hax⟩ := List.mem_flatten.1 ha
  exact h x hx a hax
end Go.Proofs.YtnpbmihbmilkbaaGreat
namespace Go.Proofs.YtnpbmihbmilkbaaGreat
theorem St.filter {s : List Am} (h : St s) (p : Am → Bool) : St (s.filter p) :=
  ⟨h.ok.sub (fun _ ha => (List.mem_filter.1 ha).1), fun a ha => h.rt a (List.mem_filter.1 ha).1, List.Pairwise.filter p h.so⟩
/-! The parts of a row, and a row in two. -/
def parts (l : List Am) : List (List Am) := (norm l).map fun x => [x]
/-! What a row's state lacks in another one's. -/
section
variable {a b c : List Am} (ha : OkR a) (hb : OkR b) (hc : OkR c)
include ha hb
include hc
end
/-! Rows that may be left out, one after another. -/
def wo (m : List (List Am)) (i : Nat) : List Am := (m.set i []).flatten
def OkM (m : List (List Am)) : Prop := ∀ x ∈ m, OkR x
theorem OkM.at_ {m : List (List Am)} (h : OkM m) (i : Nat) : OkR (m.getD i []) := by
  rw [List.getD_eq_getElem?_getD]
  cases e : m[i]? with
  | none => exact okR_nil
  | some r => exact h r (List.mem_of_getElem? e)
theorem OkM.set {m : List (List Am)} (h : OkM m) (i : Nat) : OkM (m.set i []) := fun x hx => by
  rcases List.mem_or_eq_of_mem_set hx with h1 | rfl
  · exact h x h1
  · exact okR_nil
theorem OkM.flat {m : List (List Am)} (h : OkM m) : OkR m.flatten := okR_flat h
theorem OkM.wo {m : List (List Am)} (h : OkM m) (i : Nat) : OkR (wo m i) := (h.set i).flat
/-- The atoms of a row's state that the whole has too. -/
def isTop (S : Ky → Option Vl) (x : Am) : Bool := decide ((S x.k).getD vzero = x.v)
def top (S : Ky → Option Vl) (r : List Am) : List Am := (norm r).filter (isTop S)
def cnt (S : Ky → Option Vl) (m : List (List Am)) (a : Am) : Nat := (m.map (top S)).flatten.count a
def nstep (l : List (List Am)) (st : List (List Am) × List Nat) (i : Nat) : List (List Am) × List Nat := if leq (l.getD i []) (wo st.1 i) = true then (st.1.set i [], st.2 ++ [i]) else st
def nst (l : List (List Am)) (j : Nat) : List (List Am) × List Nat := (List.range j).foldl (nstep l) (l, [])
def needless (l : List (List Am)) : List Nat := (nst l l.length).2
end Go.Proofs.YtnpbmihbmilkbaaGreat
