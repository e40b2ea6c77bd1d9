/- States of atoms as lists: the state of a row, joins, meets and their order; no program in this text. Parts and differences of states, and needless rows, as lists; no program in this text. -/
import Derived.Test.YtgggjhbijnndhaaMathN
namespace Go.Proofs.Ytgggjhbijnndhaa

/-- The number of a key: keys are ordered as their numbers. -/
def Ky.kn (k : Ky) : Int := (k.w0 * 18446744073709551616 + k.w1) * 18446744073709551616 + k.w2
theorem kn_inj {a b : Ky} (ha : a.Ok) (hb : b.Ok) (h : a.kn = b.kn) : a = b := by
  have := ha.w0r; have := ha.w1r; have := ha.w2r; have := hb.w0r; have := hb.w1r; have := hb.w2r
  unfold Ky.kn at h
  exact words_inj ha hb (by omega) (by omega) (by omega)
theorem less_kn {a b : Ky} (ha : a.Ok) (hb : b.Ok) : a.less b = decide (a.kn < b.kn) := by
  have := ha.w0r; have := ha.w1r; have := ha.w2r; have := hb.w0r; have := hb.w1r; have := hb.w2r
  unfold Ky.less less3 Ky.kn
  split
  · exact decide_eq_decide.2 (by omega)
  · split
    · exact decide_eq_decide.2 (by omega)
    · exact decide_eq_decide.2 (by omega)
/-- The number of a value: values are ordered as their numbers. -/
def Vl.rn (v : Vl) : Int := v.n * 18446744073709551616 + M.num v.t
theorem Vl.Ok.tr {v : Vl} (h : v.Ok) : 0 ≤ M.num v.t ∧ M.num v.t < 18446744073709551616 := by
  have := M.num_range v.t h.tb
  rw [h.tl] at this
  exact this
theorem rn_inj {x y : Vl} (hx : x.Ok) (hy : y.Ok) (h : x.rn = y.rn) : x = y := by
  have := hx.tr; have := hy.tr
  unfold Vl.rn at h
  have e1 : x.n = y.n := by omega
  have e2 : M.num x.t = M.num y.t := by omega
  have e3 := M.num_inj x.t y.t hx.tb hy.tb (by rw [hx.tl, hy.tl]) e2
  obtain ⟨n, t⟩ := x
  obtain ⟨n', t'⟩ := y
  simp only at e1 e3
  rw [e1, e3]
theorem over_rn {x y : Vl} (hx : x.Ok) (hy : y.Ok) : over x y = decide (y.rn ≤ x.rn) := by
  have := hx.tr; have := hy.tr
  unfold over Vl.rn
  split
  · exact decide_eq_decide.2 (by omega)
  · exact decide_eq_decide.2 (by omega)
theorem rn_pos {x : Vl} (hx : x.Ok) : 0 ≤ x.rn := by
  have := hx.tr; have := hx.n0
  unfold Vl.rn; omega
theorem rn_zero : vzero.rn = 0 := by decide
theorem more_rn {x y : Vl} (hx : x.Ok) (hy : y.Ok) : (more x y).rn = max x.rn y.rn := by
  unfold more
  rw [over_rn hx hy]
  by_cases h : y.rn ≤ x.rn
  · simp [h]; omega
  · simp [h]; omega
/-- The one of two values that the other is over. -/
def under (x y : Vl) : Vl := if over x y = true then y else x
theorem under_rn {x y : Vl} (hx : x.Ok) (hy : y.Ok) : (under x y).rn = min x.rn y.rn := by
  unfold under
  rw [over_rn hx hy]
  by_cases h : y.rn ≤ x.rn
  · simp [h]; omega
  · simp [h]; omega
theorem under_one (x y : Vl) : under x y = x ∨ under x y = y := by unfold under; split <;> simp
theorem under_ok {x y : Vl} (hx : x.Ok) (hy : y.Ok) : (under x y).Ok := by unfold under; split <;> assumption

/-! What a state has at a key. -/
def rk : Option Vl → Int
  | none => -1
  | some v => v.rn
def OkO (o : Option Vl) : Prop := ∀ v, o = some v → v.Ok
theorem ok_none : OkO none := fun _ h => by cases h
theorem ok_some {v : Vl} (h : v.Ok) : OkO (some v) := fun _ e => by cases e; exact h
theorem rk_some (v : Vl) : rk (some v) = v.rn := rfl
theorem rk_none : rk none = -1 := rfl
theorem rk_ge {x : Option Vl} (hx : OkO x) : -1 ≤ rk x := by
  cases x with
  | none => exact Int.le_refl _
  | some v => have := rn_pos (hx v rfl); show -1 ≤ v.rn; omega
theorem rk_inj {x y : Option Vl} (hx : OkO x) (hy : OkO y) (h : rk x = rk y) : x = y := by
  cases x with
  | none =>
    cases y with
    | none => rfl
    | some v => have := rn_pos (hy v rfl); simp only [rk] at h; omega
  | some u =>
    cases y with
    | none => have := rn_pos (hx u rfl); simp only [rk] at h; omega
    | some v => rw [rn_inj (hx u rfl) (hy v rfl) h]
def OkR (l : List Am) : Prop := ∀ a ∈ l, a.Ok
theorem okR_nil : OkR [] := fun _ h => by cases h
theorem OkR.cons {a : Am} {l : List Am} (ha : a.Ok) (hl : OkR l) : OkR (a :: l) := fun b hb => by
  rcases List.mem_cons.1 hb with rfl | hb
  · exact ha
  · exact hl b hb
theorem OkR.head {a : Am} {l : List Am} (h : OkR (a :: l)) : a.Ok := h a (List.mem_cons_self ..)
theorem OkR.tail {a : Am} {l : List Am} (h : OkR (a :: l)) : OkR l := fun b hb => h b (List.mem_cons_of_mem _ hb)
theorem OkR.app {l m : List Am} (hl : OkR l) (hm : OkR m) : OkR (l ++ m) := fun b hb => by
  rcases List.mem_append.1 hb with h | h
  · exact hl b h
  · exact hm b h
theorem OkR.sub {l m : List Am} (h : OkR l) (hs : ∀ a ∈ m, a ∈ l) : OkR m := fun a ha => h a (hs a ha)

/-! Rows, collected atom by atom. -/
def best (o : Option Vl) (v : Vl) : Vl := more v (o.getD vzero)
theorem getD_ok {o : Option Vl} (h : OkO o) : (o.getD vzero).Ok := by
  cases o with
  | none => exact vzero_ok
  | some v => exact h v rfl
theorem best_ok {o : Option Vl} {v : Vl} (ho : OkO o) (hv : v.Ok) : (best o v).Ok := more_ok hv (getD_ok ho)
theorem best_rn {o : Option Vl} {v : Vl} (ho : OkO o) (hv : v.Ok) : (best o v).rn = max (rk o) v.rn := by
  unfold best
  rw [more_rn hv (getD_ok ho)]
  have := rn_pos hv
  cases o with
  | none => show max v.rn vzero.rn = max (-1) v.rn; rw [rn_zero]; omega
  | some u => show max v.rn u.rn = max u.rn v.rn; omega
def upd (f : Ky → Option Vl) (k : Ky) (v : Vl) : Ky → Option Vl := fun x => if x = k then some v else f x
def step (f : Ky → Option Vl) (a : Am) : Ky → Option Vl := if a.right = true then upd f a.k (best (f a.k) a.v) else f
def col (f : Ky → Option Vl) (l : List Am) : Ky → Option Vl := l.foldl step f
def none_ : Ky → Option Vl := fun _ => none
def gt (l : List Am) : Ky → Option Vl := col none_ l
/-- What a map of keys and values may hold. -/
structure OkF (f : Ky → Option Vl) : Prop where
  k : ∀ k v, f k = some v → k.Ok
  v : ∀ k v, f k = some v → v.Ok
  r : ∀ k v, f k = some v → (⟨k, v⟩ : Am).right = true
theorem OkF.o {f : Ky → Option Vl} (h : OkF f) (k : Ky) : OkO (f k) := fun v e => h.v k v e
theorem okF_none : OkF none_ := ⟨fun _ _ h => (by cases h), fun _ _ h => (by cases h), fun _ _ h => (by cases h)⟩
theorem right_swap {k : Ky} {x y z : Vl} (hx : (⟨k, x⟩ : Am).right = true) (hy : (⟨k, y⟩ : Am).right = true) (hz : z = x ∨ z = y) : (⟨k, z⟩ : Am).right = true := by
  rcases hz with rfl | rfl <;> assumption
theorem best_one {f : Ky → Option Vl} {a : Am} (ha : a.Ok) : best (f a.k) a.v = a.v ∨ f a.k = some (best (f a.k) a.v) := by
  have h2 := more_one a.v ((f a.k).getD vzero)
  cases e : f a.k with
  | none =>
    left
    have h1 := best_rn ok_none ha.v
    refine rn_inj (best_ok ok_none ha.v) ha.v ?_
    rw [h1, rk_none]
    have := rn_pos ha.v
    omega
  | some u =>
    rw [e] at h2
    unfold best
    simp only [Option.getD_some] at *
    rcases h2 with h | h
    · exact .inl h
    · exact .inr (by rw [h])
theorem step_ok {f : Ky → Option Vl} (hf : OkF f) {a : Am} (ha : a.Ok) : OkF (step f a) := by
  unfold step
  split
  · rename_i hr
    have hw : ∀ k v, upd f a.k (best (f a.k) a.v) k = some v → k.Ok ∧ v.Ok ∧ (⟨k, v⟩ : Am).right = true := by
      intro k v h
      unfold upd at h
      split at h
      · rename_i hk
        cases h
        subst hk
        refine ⟨ha.k, best_ok (hf.o _) ha.v, ?_⟩
        rcases best_one (f := f) ha with e | e
        · rw [e]; exact hr
        · exact hf.r _ _ e
      · exact ⟨hf.k k v h, hf.v k v h, hf.r k v h⟩
    exact ⟨fun k v h => (hw k v h).1, fun k v h => (hw k v h).2.1, fun k v h => (hw k v h).2.2⟩
  · exact hf
theorem col_ok : ∀ (l : List Am) {f : Ky → Option Vl}, OkF f → OkR l → OkF (col f l)
  | [], _, hf, _ => hf
  | _ :: l, _, hf, hl => col_ok l (step_ok hf hl.head) hl.tail
theorem gt_ok {l : List Am} (h : OkR l) : OkF (gt l) := col_ok l okF_none h
theorem rk_step {f : Ky → Option Vl} (hf : OkF f) {a : Am} (ha : a.Ok) (k : Ky) : rk (step f a k) = max (rk (f k)) (if a.right = true ∧ a.k = k then a.v.rn else -1) := by
  have := rk_ge (hf.o k)
  unfold step
  by_cases hr : a.right = true
  · rw [if_pos hr]
    unfold upd
    by_cases hk : a.k = k
    · rw [if_pos hk.symm, if_pos ⟨hr, hk⟩, rk_some, best_rn (hf.o _) ha.v, hk]
    · rw [if_neg (fun e => hk e.symm), if_neg (fun e => hk e.2)]
      omega
  · rw [if_neg hr, if_neg (fun e => hr e.1)]
    omega
theorem col_cons (f : Ky → Option Vl) (a : Am) (l : List Am) : col f (a :: l) = col (step f a) l := rfl
theorem col_app (f : Ky → Option Vl) (l m : List Am) : col f (l ++ m) = col (col f l) m := List.foldl_append ..
theorem col_snoc (f : Ky → Option Vl) (l : List Am) (a : Am) : col f (l ++ [a]) = step (col f l) a := col_app f l [a]
theorem rk_col (k : Ky) : ∀ (l : List Am) {f : Ky → Option Vl}, OkF f → OkR l → rk (col f l k) = max (rk (f k)) (rk (gt l k))
  | [], f, hf, _ => by
    have := rk_ge (hf.o k)
    show rk (f k) = max (rk (f k)) (-1)
    omega
  | a :: l, f, hf, hl => by
    have h1 := rk_col k l (step_ok hf hl.head) hl.tail
    have h2 := rk_col k l (step_ok okF_none hl.head) hl.tail
    have h3 := rk_step hf hl.head k
    have h4 := rk_step okF_none hl.head k
    have h5 := rk_ge (hf.o k)
    have e : rk (none_ k) = -1 := rfl
    unfold gt at *
    rw [col_cons, col_cons, h1, h2, h3, h4, e]
    omega
theorem gt_app {l m : List Am} (hl : OkR l) (hm : OkR m) (k : Ky) : rk (gt (l ++ m) k) = max (rk (gt l k)) (rk (gt m k)) := by
  unfold gt
  rw [col_app]
  exact rk_col k m (gt_ok hl) hm
theorem gt_cons {a : Am} {l : List Am} (ha : a.Ok) (hl : OkR l) (k : Ky) : rk (gt (a :: l) k) = max (if a.right = true ∧ a.k = k then a.v.rn else -1) (rk (gt l k)) := by
  have h2 := rk_col k l (step_ok okF_none ha) hl
  have h4 := rk_step okF_none ha k
  have e : rk (none_ k) = -1 := rfl
  have h5 : -1 ≤ (if a.right = true ∧ a.k = k then a.v.rn else -1) := by
    split
    · have := rn_pos ha.v; omega
    · omega
  show rk (col (step none_ a) l k) = _
  rw [h2, h4, e]
  omega
def only (l : List Am) (k : Ky) : List Am := l.filter (fun a => decide (a.k = k))
theorem gt_only : ∀ {l : List Am} (_ : OkR l) (k : Ky), gt (only l k) k = gt l k := by
  intro l hl k
  have ho : ∀ {m : List Am}, OkR m → OkR (only m k) := fun h => h.sub (fun a ha => (List.mem_filter.1 ha).1)
  refine rk_inj ((gt_ok (ho hl)).o k) ((gt_ok hl).o k) ?_
  induction l with
  | nil => rfl
  | cons a l ih =>
    have ih := ih hl.tail
    rw [gt_cons hl.head hl.tail]
    unfold only at *
    by_cases hk : a.k = k
    · rw [List.filter_cons_of_pos (by simpa using hk), gt_cons hl.head (ho hl.tail), ih]
    · rw [List.filter_cons_of_neg (by simpa using hk), ih, if_neg (fun e => hk e.2)]
      have := rk_ge ((gt_ok hl.tail).o k)
      omega

/-! States. -/
def fnd : List Am → Ky → Option Vl
  | [], _ => none
  | a :: s, k => if a.k = k then some a.v else fnd s k
def Srt (s : List Am) : Prop := s.Pairwise (fun a b => a.k.kn < b.k.kn)
structure St (s : List Am) : Prop where
  ok : OkR s
  rt : ∀ a ∈ s, a.right = true
  so : Srt s
theorem st_nil : St [] := ⟨okR_nil, fun _ h => (by cases h), List.Pairwise.nil⟩
theorem St.tail {a : Am} {s : List Am} (h : St (a :: s)) : St s := ⟨h.ok.tail, fun b hb => h.rt b (List.mem_cons_of_mem _ hb), (List.pairwise_cons.1 h.so).2⟩
theorem St.low {a : Am} {s : List Am} (h : St (a :: s)) : ∀ b ∈ s, a.k.kn < b.k.kn := (List.pairwise_cons.1 h.so).1
theorem St.cons {a : Am} {s : List Am} (ha : a.Ok) (hr : a.right = true) (hl : ∀ b ∈ s, a.k.kn < b.k.kn) (h : St s) : St (a :: s) :=
  ⟨h.ok.cons ha, fun b hb => by rcases List.mem_cons.1 hb with rfl | hb; exact hr; exact h.rt b hb, List.pairwise_cons.2 ⟨hl, h.so⟩⟩
theorem fnd_mem : ∀ {s : List Am} {k : Ky} {v : Vl}, fnd s k = some v → (⟨k, v⟩ : Am) ∈ s
  | a :: s, k, v, h => by
    unfold fnd at h
    split at h
    · rename_i hk; cases h; subst hk; exact List.mem_cons_self ..
    · exact List.mem_cons_of_mem _ (fnd_mem h)
theorem fnd_ok {s : List Am} (h : OkR s) (k : Ky) : OkO (fnd s k) := fun _ e => (h _ (fnd_mem e)).v
theorem fnd_low : ∀ {s : List Am} {k : Ky}, (∀ b ∈ s, k.kn < b.k.kn) → fnd s k = none
  | [], _, _ => rfl
  | a :: s, k, h => by
    unfold fnd
    rw [if_neg (fun e => by have := h a (List.mem_cons_self ..); rw [e] at this; omega)]
    exact fnd_low (fun b hb => h b (List.mem_cons_of_mem _ hb))
theorem fnd_of_mem : ∀ {s : List Am}, St s → ∀ {a : Am}, a ∈ s → fnd s a.k = some a.v
  | b :: s, h, a, ha => by
    unfold fnd
    rcases List.mem_cons.1 ha with rfl | ha
    · rw [if_pos rfl]
    · have := h.low a ha
      rw [if_neg (fun e => by rw [e] at this; omega)]
      exact fnd_of_mem h.tail ha
theorem st_ext : ∀ {s t : List Am}, St s → St t → (∀ k, fnd s k = fnd t k) → s = t
  | [], [], _, _, _ => rfl
  | [], b :: t, _, _, h => by have := h b.k; simp [fnd] at this
  | a :: s, [], _, _, h => by have := h a.k; simp [fnd] at this
  | a :: s, b :: t, hs, ht, h => by
    have key : a.k = b.k := by
      rcases Int.lt_trichotomy a.k.kn b.k.kn with hl | he | hl
      · have e := h a.k
        rw [fnd_low (s := b :: t) (fun c hc => by
          rcases List.mem_cons.1 hc with rfl | hc
          · exact hl
          · exact Int.lt_trans hl (ht.low c hc))] at e
        simp [fnd] at e
      · exact kn_inj (hs.ok.head).k (ht.ok.head).k he
      · have e := h b.k
        rw [fnd_low (s := a :: s) (fun c hc => by
          rcases List.mem_cons.1 hc with rfl | hc
          · exact hl
          · exact Int.lt_trans hl (hs.low c hc))] at e
        simp [fnd] at e
    have val : a.v = b.v := by
      have e := h a.k
      rw [fnd_of_mem hs (List.mem_cons_self ..), key, fnd_of_mem ht (List.mem_cons_self ..)] at e
      exact Option.some.inj e
    have tl : s = t := st_ext hs.tail ht.tail (fun k => by
      by_cases hk : a.k = k
      · rw [fnd_low (hk ▸ hs.low), fnd_low (hk ▸ key ▸ ht.low)]
      · have e := h k
        unfold fnd at e
        rwa [if_neg hk, if_neg (fun e => hk (key.trans e))] at e)
    obtain ⟨k, v⟩ := a
    obtain ⟨k', v'⟩ := b
    simp only at key val
    rw [key, val, tl]
theorem gt_st : ∀ {s : List Am}, St s → ∀ k, gt s k = fnd s k := by
  intro s hs k
  refine rk_inj ((gt_ok hs.ok).o k) (fnd_ok hs.ok k) ?_
  induction s with
  | nil => rfl
  | cons a s ih =>
    rw [gt_cons hs.ok.head hs.tail.ok, ih hs.tail]
    show _ = rk (if a.k = k then some a.v else fnd s k)
    by_cases hk : a.k = k
    · rw [if_pos ⟨hs.rt a (List.mem_cons_self ..), hk⟩, if_pos hk, fnd_low (hk ▸ hs.low), rk_none, rk_some]
      have := rn_pos (hs.ok.head).v
      omega
    · rw [if_neg (fun e => hk e.2), if_neg hk]
      have := rk_ge (fnd_ok hs.tail.ok k)
      omega

/-! An atom, put where it belongs. -/
def put : List Am → Am → List Am
  | [], a => [a]
  | x :: s, a => if x.k = a.k then ⟨a.k, more x.v a.v⟩ :: s else if a.k.less x.k = true then a :: x :: s else x :: put s a
theorem put_mem : ∀ {s : List Am} {a b : Am}, b ∈ put s a → b.k = a.k ∨ b ∈ s
  | [], a, b, h => by obtain rfl := List.mem_singleton.1 h; exact .inl rfl
  | x :: s, a, b, h => by
    unfold put at h
    split at h
    · rcases List.mem_cons.1 h with rfl | h
      · exact .inl rfl
      · exact .inr (List.mem_cons_of_mem _ h)
    · split at h
      · rcases List.mem_cons.1 h with rfl | h
        · exact .inl rfl
        · exact .inr h
      · rcases List.mem_cons.1 h with rfl | h
        · exact .inr (List.mem_cons_self ..)
        · rcases put_mem h with h | h
          · exact .inl h
          · exact .inr (List.mem_cons_of_mem _ h)
theorem put_st : ∀ {s : List Am} {a : Am}, St s → a.Ok → a.right = true → St (put s a)
  | [], a, _, ha, hr => St.cons ha hr (fun _ h => by cases h) st_nil
  | x :: s, a, hs, ha, hr => by
    unfold put
    split
    · rename_i hk
      refine St.cons ⟨ha.k, more_ok (hs.ok.head).v ha.v⟩ ?_ ?_ hs.tail
      · refine right_swap (x := x.v) (y := a.v) ?_ hr (more_one x.v a.v)
        rw [← hk]; exact hs.rt x (List.mem_cons_self ..)
      · intro b hb; show a.k.kn < b.k.kn; rw [← hk]; exact hs.low b hb
    · rename_i hk
      split
      · rename_i hl
        rw [less_kn ha.k (hs.ok.head).k] at hl
        have hl := of_decide_eq_true hl
        refine St.cons ha hr ?_ hs
        intro b hb
        rcases List.mem_cons.1 hb with rfl | hb
        · exact hl
        · exact Int.lt_trans hl (hs.low b hb)
      · rename_i hl
        rw [less_kn ha.k (hs.ok.head).k] at hl
        have hl : ¬ a.k.kn < x.k.kn := fun e => hl (decide_eq_true e)
        have hlt : x.k.kn < a.k.kn := by
          rcases Int.lt_trichotomy a.k.kn x.k.kn with h | h | h
          · exact absurd h hl
          · exact absurd (kn_inj ha.k (hs.ok.head).k h).symm hk
          · exact h
        refine St.cons hs.ok.head (hs.rt x (List.mem_cons_self ..)) ?_ (put_st hs.tail ha hr)
        intro b hb
        rcases put_mem hb with h | h
        · rw [h]; exact hlt
        · exact hs.low b h
theorem rk_put : ∀ {s : List Am} {a : Am}, St s → a.Ok → ∀ k, rk (fnd (put s a) k) = if a.k = k then max (rk (fnd s k)) a.v.rn else rk (fnd s k)
  | [], a, _, ha, k => by
    show rk (if a.k = k then some a.v else none) = if a.k = k then max (-1) a.v.rn else -1
    split
    · have := rn_pos ha.v; rw [rk_some]; omega
    · rfl
  | x :: s, a, hs, ha, k => by
    have hx := hs.ok.head
    unfold put
    by_cases hk : x.k = a.k
    · rw [if_pos hk]
      by_cases h2 : a.k = k
      · simp only [fnd, h2, hk, if_true, rk]
        exact more_rn hx.v ha.v
      · simp only [fnd, h2, hk, if_false]
    · rw [if_neg hk]
      by_cases hl : a.k.less x.k = true
      · rw [if_pos hl]
        by_cases h2 : a.k = k
        · rw [less_kn ha.k hx.k] at hl
          have hl := of_decide_eq_true hl
          have hn : fnd (x :: s) k = none := fnd_low (fun b hb => by
            rcases List.mem_cons.1 hb with rfl | hb
            · rw [← h2]; exact hl
            · rw [← h2]; exact Int.lt_trans hl (hs.low b hb))
          rw [if_pos h2, hn]
          have := rn_pos ha.v
          simp only [fnd, h2, if_true, rk]
          omega
        · rw [if_neg h2]
          show rk (if a.k = k then some a.v else fnd (x :: s) k) = _
          rw [if_neg h2]
      · rw [if_neg hl]
        have ih := rk_put hs.tail ha k
        by_cases h3 : x.k = k
        · rw [if_neg (fun e => hk (h3.trans e.symm))]
          simp only [fnd, h3, if_true]
        · simp only [fnd, h3, if_false]
          exact ih
def putR (s : List Am) (a : Am) : List Am := if a.right = true then put s a else s
def norm (l : List Am) : List Am := l.foldl putR []
theorem norm_snoc (l : List Am) (a : Am) : norm (l ++ [a]) = putR (norm l) a := List.foldl_append ..
theorem norm_from : ∀ (l : List Am) {s : List Am}, OkR l → St s → St (l.foldl putR s) ∧ ∀ k, rk (fnd (l.foldl putR s) k) = max (rk (fnd s k)) (rk (gt l k))
  | [], s, _, hs => ⟨hs, fun k => by
      have := rk_ge (fnd_ok hs.ok k)
      show rk (fnd s k) = max (rk (fnd s k)) (-1)
      omega⟩
  | a :: l, s, hl, hs => by
    have hst : St (putR s a) ∧ ∀ k, rk (fnd (putR s a) k) = max (rk (fnd s k)) (if a.right = true ∧ a.k = k then a.v.rn else -1) := by
      unfold putR
      by_cases hr : a.right = true
      · rw [if_pos hr]
        refine ⟨put_st hs hl.head hr, fun k => ?_⟩
        rw [rk_put hs hl.head]
        have := rk_ge (fnd_ok hs.ok k)
        by_cases hk : a.k = k
        · rw [if_pos hk, if_pos ⟨hr, hk⟩]
        · rw [if_neg hk, if_neg (fun e => hk e.2)]; omega
      · rw [if_neg hr]
        refine ⟨hs, fun k => ?_⟩
        have := rk_ge (fnd_ok hs.ok k)
        rw [if_neg (fun e => hr e.1)]; omega
    obtain ⟨h1, h2⟩ := norm_from l hl.tail hst.1
    refine ⟨h1, fun k => ?_⟩
    show rk (fnd (l.foldl putR (putR s a)) k) = _
    rw [h2, hst.2, gt_cons hl.head hl.tail]
    omega
theorem norm_st {l : List Am} (h : OkR l) : St (norm l) := (norm_from l h st_nil).1
theorem fnd_norm {l : List Am} (h : OkR l) (k : Ky) : fnd (norm l) k = gt l k := by
  refine rk_inj (fnd_ok (norm_st h).ok k) ((gt_ok h).o k) ?_
  have := (norm_from l h st_nil).2 k
  have h2 := rk_ge ((gt_ok h).o k)
  have e : rk (fnd [] k) = -1 := rfl
  rw [e] at this
  unfold norm
  rw [this]
  omega
theorem gt_norm {l : List Am} (h : OkR l) (k : Ky) : gt (norm l) k = gt l k := by rw [gt_st (norm_st h), fnd_norm h]
theorem norm_eq {s l : List Am} (hs : St s) (hl : OkR l) (h : ∀ k, rk (fnd s k) = rk (gt l k)) : s = norm l :=
  st_ext hs (norm_st hl) (fun k => by rw [fnd_norm hl]; exact rk_inj (fnd_ok hs.ok k) ((gt_ok hl).o k) (h k))
theorem norm_id {s : List Am} (hs : St s) : norm s = s := (norm_eq hs hs.ok (fun k => by rw [gt_st hs])).symm
theorem norm_same {l m : List Am} (hl : OkR l) (hm : OkR m) (h : ∀ k, rk (gt l k) = rk (gt m k)) : norm l = norm m :=
  norm_eq (norm_st hl) hm (fun k => by rw [fnd_norm hl]; exact h k)
theorem norm_same' {l m : List Am} (hl : OkR l) (hm : OkR m) (h : norm l = norm m) (k : Ky) : rk (gt l k) = rk (gt m k) := by rw [← fnd_norm hl, ← fnd_norm hm, h]

/-! Is a row a state? -/
def okAt (s : List Am) (i : Nat) : Bool := (s.getD i azero).right && (decide (i = 0) || (s.getD (i - 1) azero).k.less (s.getD i azero).k)
def rightR (s : List Am) : Bool := (List.range s.length).all (okAt s)
theorem rightR_true {s : List Am} (h : ∀ i, i < s.length → okAt s i = true) : rightR s = true := by
  unfold rightR; rw [List.all_eq_true]; intro i hi; exact h i (List.mem_range.1 hi)
theorem rightR_false {s : List Am} {i : Nat} (hi : i < s.length) (h : okAt s i = false) : rightR s = false := by
  unfold rightR
  rw [List.all_eq_false]
  exact ⟨i, List.mem_range.2 hi, by rw [h]; simp⟩
theorem rightR_st {s : List Am} (h : OkR s) : rightR s = true ↔ St s := by
  have gd : ∀ i (hi : i < s.length), s.getD i azero = s[i] := fun i hi => by simp [List.getD, List.getElem?_eq_getElem hi]
  constructor
  · intro hr
    have hr : ∀ i, i < s.length → okAt s i = true := fun i hi => by
      unfold rightR at hr; rw [List.all_eq_true] at hr; exact hr i (List.mem_range.2 hi)
    refine ⟨h, fun a ha => ?_, ?_⟩
    · obtain ⟨i, hi, rfl⟩ := List.getElem_of_mem ha
      have := hr i hi
      unfold okAt at this
      rw [gd i hi] at this
      simp only [Bool.and_eq_true] at this
      exact this.1
    · have adj : ∀ i (hi : i + 1 < s.length), s[i].k.kn < s[i + 1].k.kn := fun i hi => by
        have := hr (i + 1) hi
        unfold okAt at this
        rw [gd (i + 1) hi, Nat.add_sub_cancel, gd i (by omega)] at this
        simp only [Bool.and_eq_true, Bool.or_eq_true, decide_eq_true_eq, Nat.succ_ne_zero, false_or] at this
        have h2 := this.2
        rw [less_kn (h _ (List.getElem_mem _)).k (h _ (List.getElem_mem _)).k] at h2
        exact of_decide_eq_true h2
      refine List.pairwise_iff_getElem.2 ?_
      intro i j hi hj hij
      induction j with
      | zero => omega
      | succ j ih =>
        have := adj j hj
        by_cases e : i = j
        · subst e; exact this
        · exact Int.lt_trans (ih (by omega) (by omega)) this
  · intro hs
    refine rightR_true (fun i hi => ?_)
    unfold okAt
    rw [gd i hi]
    simp only [Bool.and_eq_true, Bool.or_eq_true, decide_eq_true_eq]
    refine ⟨hs.rt _ (List.getElem_mem _), ?_⟩
    by_cases h0 : i = 0
    · exact .inl h0
    · refine .inr ?_
      rw [gd (i - 1) (by omega), less_kn (h _ (List.getElem_mem _)).k (h _ (List.getElem_mem _)).k]
      exact decide_eq_true (List.pairwise_iff_getElem.1 hs.so (i - 1) i (by omega) hi (by omega))
theorem norm_right {s : List Am} (h : OkR s) (hr : rightR s = true) : norm s = s := norm_id ((rightR_st h).1 hr)

/-! Joins and meets. -/
def join (a b : List Am) : List Am := norm (a ++ b)
theorem join_st {a b : List Am} (ha : OkR a) (hb : OkR b) : St (join a b) := norm_st (ha.app hb)
theorem rk_join {a b : List Am} (ha : OkR a) (hb : OkR b) (k : Ky) : rk (gt (join a b) k) = max (rk (gt a k)) (rk (gt b k)) := by
  unfold join; rw [gt_norm (ha.app hb), gt_app ha hb]
def merge : List Am → List Am → List Am
  | [], t => t
  | x :: s, [] => x :: s
  | x :: s, y :: t => if x.k.less y.k = true then x :: merge s (y :: t) else if y.k.less x.k = true then y :: merge (x :: s) t else ⟨x.k, more x.v y.v⟩ :: merge s t
termination_by s t => s.length + t.length
theorem merge_all : ∀ (n : Nat) {s t : List Am}, s.length + t.length = n → St s → St t → St (merge s t) ∧ (∀ b ∈ merge s t, b.k ∈ s.map (·.k) ∨ b.k ∈ t.map (·.k)) ∧ ∀ k, rk (fnd (merge s t) k) = max (rk (fnd s k)) (rk (fnd t k)) := by
  intro n
  induction n using Nat.strongRecOn with
  | ind n ih =>
    intro s t hn hs ht
    match s, t with
    | [], t =>
      unfold merge
      refine ⟨ht, fun b hb => .inr (List.mem_map.2 ⟨b, hb, rfl⟩), fun k => ?_⟩
      have := rk_ge (fnd_ok ht.ok k)
      show rk (fnd t k) = max (-1) (rk (fnd t k))
      omega
    | x :: s, [] =>
      unfold merge
      refine ⟨hs, fun b hb => .inl (List.mem_map.2 ⟨b, hb, rfl⟩), fun k => ?_⟩
      have := rk_ge (fnd_ok hs.ok k)
      show rk (fnd (x :: s) k) = max (rk (fnd (x :: s) k)) (-1)
      omega
    | x :: s, y :: t =>
      have hx := hs.ok.head; have hy := ht.ok.head
      have low1 : ∀ c, c ∈ (x :: s).map (·.k) → x.k.kn ≤ c.kn := fun c hc => by
        obtain ⟨b, hb, rfl⟩ := List.mem_map.1 hc
        rcases List.mem_cons.1 hb with rfl | hb
        · exact Int.le_refl _
        · exact Int.le_of_lt (hs.low b hb)
      have low2 : ∀ c, c ∈ (y :: t).map (·.k) → y.k.kn ≤ c.kn := fun c hc => by
        obtain ⟨b, hb, rfl⟩ := List.mem_map.1 hc
        rcases List.mem_cons.1 hb with rfl | hb
        · exact Int.le_refl _
        · exact Int.le_of_lt (ht.low b hb)
      have low1' : ∀ c, c ∈ s.map (·.k) → x.k.kn < c.kn := fun c hc => by
        obtain ⟨b, hb, rfl⟩ := List.mem_map.1 hc; exact hs.low b hb
      have low2' : ∀ c, c ∈ t.map (·.k) → y.k.kn < c.kn := fun c hc => by
        obtain ⟨b, hb, rfl⟩ := List.mem_map.1 hc; exact ht.low b hb
      have sub : ∀ {u : List Am} {z : Am} {c : Ky}, c ∈ u.map (·.k) → c ∈ (z :: u).map (·.k) := fun h => by rw [List.map_cons]; exact List.mem_cons_of_mem _ h
      unfold merge
      rw [less_kn hx.k hy.k, less_kn hy.k hx.k]
      by_cases h1 : x.k.kn < y.k.kn
      · rw [if_pos (decide_eq_true h1)]
        obtain ⟨i1, i2, i3⟩ := ih (s.length + (y :: t).length) (by simp at hn ⊢; omega) rfl hs.tail ht
        refine ⟨St.cons hx (hs.rt x (List.mem_cons_self ..)) (fun b hb => ?_) i1, fun b hb => ?_, fun k => ?_⟩
        · rcases i2 b hb with h | h
          · exact low1' _ h
          · exact Int.lt_of_lt_of_le h1 (low2 _ h)
        · rcases List.mem_cons.1 hb with rfl | hb
          · exact .inl (List.mem_map.2 ⟨b, List.mem_cons_self .., rfl⟩)
          · exact (i2 b hb).imp sub id
        · show rk (if x.k = k then some x.v else fnd (merge s (y :: t)) k) = max (rk (if x.k = k then some x.v else fnd s k)) _
          by_cases hk : x.k = k
          · rw [if_pos hk, if_pos hk, fnd_low (s := y :: t) (k := k) (fun b hb => by rw [← hk]; exact Int.lt_of_lt_of_le h1 (low2 _ (List.mem_map.2 ⟨b, hb, rfl⟩))), rk_some, rk_none]
            have := rn_pos hx.v; omega
          · rw [if_neg hk, if_neg hk]; exact i3 k
      · rw [if_neg (fun e => h1 (of_decide_eq_true e))]
        by_cases h2 : y.k.kn < x.k.kn
        · rw [if_pos (decide_eq_true h2)]
          obtain ⟨i1, i2, i3⟩ := ih ((x :: s).length + t.length) (by simp at hn ⊢; omega) rfl hs ht.tail
          refine ⟨St.cons hy (ht.rt y (List.mem_cons_self ..)) (fun b hb => ?_) i1, fun b hb => ?_, fun k => ?_⟩
          · rcases i2 b hb with h | h
            · exact Int.lt_of_lt_of_le h2 (low1 _ h)
            · exact low2' _ h
          · rcases List.mem_cons.1 hb with rfl | hb
            · exact .inr (List.mem_map.2 ⟨b, List.mem_cons_self .., rfl⟩)
            · exact (i2 b hb).imp id sub
          · show rk (if y.k = k then some y.v else fnd (merge (x :: s) t) k) = max _ (rk (if y.k = k then some y.v else fnd t k))
            by_cases hk : y.k = k
            · rw [if_pos hk, if_pos hk, fnd_low (s := x :: s) (k := k) (fun b hb => by rw [← hk]; exact Int.lt_of_lt_of_le h2 (low1 _ (List.mem_map.2 ⟨b, hb, rfl⟩))), rk_some, rk_none]
              have := rn_pos hy.v; omega
            · rw [if_neg hk, if_neg hk]; exact i3 k
        · rw [if_neg (fun e => h2 (of_decide_eq_true e))]
          have hxy : x.k = y.k := kn_inj hx.k hy.k (by omega)
          obtain ⟨i1, i2, i3⟩ := ih (s.length + t.length) (by simp at hn ⊢; omega) rfl hs.tail ht.tail
          refine ⟨St.cons ⟨hx.k, more_ok hx.v hy.v⟩ ?_ (fun b hb => ?_) i1, fun b hb => ?_, fun k => ?_⟩
          · refine right_swap (x := x.v) (y := y.v) (hs.rt x (List.mem_cons_self ..)) ?_ (more_one x.v y.v)
            show (⟨x.k, y.v⟩ : Am).right = true
            rw [hxy]; exact ht.rt y (List.mem_cons_self ..)
          · show x.k.kn < b.k.kn
            rcases i2 b hb with h | h
            · exact low1' _ h
            · rw [hxy]; exact low2' _ h
          · rcases List.mem_cons.1 hb with rfl | hb
            · exact .inl (List.mem_map.2 ⟨x, List.mem_cons_self .., rfl⟩)
            · exact (i2 b hb).imp sub sub
          · show rk (if x.k = k then some (more x.v y.v) else fnd (merge s t) k) = max (rk (if x.k = k then some x.v else fnd s k)) (rk (if y.k = k then some y.v else fnd t k))
            rw [← hxy]
            by_cases hk : x.k = k
            · rw [if_pos hk, if_pos hk, if_pos hk]; exact more_rn hx.v hy.v
            · rw [if_neg hk, if_neg hk, if_neg hk]; exact i3 k
theorem merge_join {a b : List Am} (ha : OkR a) (hb : OkR b) : merge (norm a) (norm b) = join a b := by
  obtain ⟨h1, _, h2⟩ := merge_all _ rfl (norm_st ha) (norm_st hb)
  refine norm_eq h1 (ha.app hb) (fun k => ?_)
  rw [h2, fnd_norm ha, fnd_norm hb, gt_app ha hb]
def meetA (f : Ky → Option Vl) (x : Am) : Option Am := (f x.k).map fun w => ⟨x.k, under x.v w⟩
def meetF (s : List Am) (f : Ky → Option Vl) : List Am := s.filterMap (meetA f)
def meet (a b : List Am) : List Am := meetF (norm a) (gt b)
theorem meetF_cons (x : Am) (s : List Am) (f : Ky → Option Vl) : meetF (x :: s) f = (match f x.k with | none => meetF s f | some w => ⟨x.k, under x.v w⟩ :: meetF s f) := by
  unfold meetF
  rw [List.filterMap_cons]
  unfold meetA
  cases f x.k <;> rfl
theorem meetF_all : ∀ {s : List Am} {f : Ky → Option Vl}, St s → OkF f → St (meetF s f) ∧ (∀ b ∈ meetF s f, b.k ∈ s.map (·.k)) ∧ ∀ k, rk (fnd (meetF s f) k) = min (rk (fnd s k)) (rk (f k))
  | [], f, _, hf => ⟨st_nil, fun _ h => (by cases h), fun k => by
      have := rk_ge (hf.o k)
      show -1 = min (-1) (rk (f k))
      omega⟩
  | x :: s, f, hs, hf => by
    have hx := hs.ok.head
    obtain ⟨i1, i2, i3⟩ := meetF_all hs.tail hf
    rw [meetF_cons]
    cases e : f x.k with
    | none =>
      simp only
      refine ⟨i1, fun b hb => by rw [List.map_cons]; exact List.mem_cons_of_mem _ (i2 b hb), fun k => ?_⟩
      rw [i3]
      show _ = min (rk (if x.k = k then some x.v else fnd s k)) _
      by_cases hk : x.k = k
      · rw [if_pos hk, fnd_low (hk ▸ hs.low), ← hk, e, rk_some, rk_none]
        have := rn_pos hx.v; omega
      · rw [if_neg hk]
    | some u =>
      simp only
      have hu := hf.v _ _ e
      refine ⟨St.cons ⟨hx.k, under_ok hx.v hu⟩ (right_swap (hs.rt x (List.mem_cons_self ..)) (hf.r _ _ e) (under_one x.v u)) (fun b hb => ?_) i1, fun b hb => ?_, fun k => ?_⟩
      · obtain ⟨c, hc, e2⟩ := List.mem_map.1 (i2 b hb)
        rw [← e2]; exact hs.low c hc
      · rw [List.map_cons]
        rcases List.mem_cons.1 hb with rfl | hb
        · exact List.mem_cons_self ..
        · exact List.mem_cons_of_mem _ (i2 b hb)
      · show rk (if x.k = k then some (under x.v u) else fnd (meetF s f) k) = min (rk (if x.k = k then some x.v else fnd s k)) _
        by_cases hk : x.k = k
        · rw [if_pos hk, if_pos hk, ← hk, e]; exact under_rn hx.v hu
        · rw [if_neg hk, if_neg hk]; exact i3 k
theorem meet_st {a b : List Am} (ha : OkR a) (hb : OkR b) : St (meet a b) := (meetF_all (norm_st ha) (gt_ok hb)).1
theorem rk_meet {a b : List Am} (ha : OkR a) (hb : OkR b) (k : Ky) : rk (gt (meet a b) k) = min (rk (gt a k)) (rk (gt b k)) := by
  rw [gt_st (meet_st ha hb)]
  have := (meetF_all (norm_st ha) (gt_ok hb)).2.2 k
  rw [fnd_norm ha] at this
  exact this

/-! The order. -/
def leA (f : Ky → Option Vl) (x : Am) : Bool := match f x.k with | none => false | some w => over w x.v
def leq (a b : List Am) : Bool := (norm a).all (leA (gt b))
theorem leA_rk {f : Ky → Option Vl} (hf : OkF f) {x : Am} (hx : x.Ok) : leA f x = decide (x.v.rn ≤ rk (f x.k)) := by
  unfold leA
  have := rn_pos hx.v
  cases e : f x.k with
  | none => simp only [rk]; symm; exact decide_eq_false (by omega)
  | some w => exact over_rn (hf.v _ _ e) hx.v
theorem leq_iff {a b : List Am} (ha : OkR a) (hb : OkR b) : leq a b = true ↔ ∀ k, rk (gt a k) ≤ rk (gt b k) := by
  have hs := norm_st ha
  unfold leq
  rw [List.all_eq_true]
  constructor
  · intro h k
    rw [← fnd_norm ha]
    cases e : fnd (norm a) k with
    | none => exact rk_ge ((gt_ok hb).o k)
    | some v =>
      have hm := fnd_mem e
      have := h _ hm
      rw [leA_rk (gt_ok hb) (hs.ok _ hm)] at this
      exact of_decide_eq_true this
  · intro h x hx
    rw [leA_rk (gt_ok hb) (hs.ok x hx)]
    have := h x.k
    rw [← fnd_norm ha, fnd_of_mem hs hx] at this
    exact decide_eq_true this
def same (a b : List Am) : Bool := decide (norm a = norm b)
theorem same_iff {a b : List Am} (ha : OkR a) (hb : OkR b) : same a b = true ↔ ∀ k, rk (gt a k) = rk (gt b k) := by
  unfold same
  rw [decide_eq_true_eq]
  exact ⟨fun h => norm_same' ha hb h, fun h => norm_same ha hb h⟩
theorem same_gt {a b : List Am} (ha : OkR a) (hb : OkR b) : same a b = true ↔ gt a = gt b := by
  rw [same_iff ha hb]
  exact ⟨fun h => funext fun k => rk_inj ((gt_ok ha).o k) ((gt_ok hb).o k) (h k), fun h k => by rw [h]⟩

/-! The laws. -/
section
variable {a b c : List Am} (ha : OkR a) (hb : OkR b) (hc : OkR c)
include ha hb
theorem law_j : rightR (join a b) = true := (rightR_st (join_st ha hb).ok).2 (join_st ha hb)
theorem law_m : rightR (meet a b) = true := (rightR_st (meet_st ha hb).ok).2 (meet_st ha hb)
theorem law_aj : leq a (join a b) = true := (leq_iff ha (join_st ha hb).ok).2 (fun k => by rw [rk_join ha hb]; omega)
theorem law_bj : leq b (join a b) = true := (leq_iff hb (join_st ha hb).ok).2 (fun k => by rw [rk_join ha hb]; omega)
theorem law_ma : leq (meet a b) a = true := (leq_iff (meet_st ha hb).ok ha).2 (fun k => by rw [rk_meet ha hb]; omega)
theorem law_mb : leq (meet a b) b = true := (leq_iff (meet_st ha hb).ok hb).2 (fun k => by rw [rk_meet ha hb]; omega)
theorem law_comm : join a b = join b a := norm_same (ha.app hb) (hb.app ha) (fun k => by rw [gt_app ha hb, gt_app hb ha]; omega)
theorem law_idem : join (join a b) a = join a b := norm_same ((join_st ha hb).ok.app ha) (ha.app hb) (fun k => by rw [gt_app (join_st ha hb).ok ha, rk_join ha hb, gt_app ha hb]; omega)
theorem law_leq : leq a b = decide (join a b = norm b) := by
  rw [Bool.eq_iff_iff, leq_iff ha hb, decide_eq_true_eq]
  constructor
  · intro h; exact norm_same (ha.app hb) hb (fun k => by rw [gt_app ha hb]; have := h k; omega)
  · intro h k
    have := norm_same' (ha.app hb) hb h k
    rw [gt_app ha hb] at this
    omega
theorem law_anti : (leq a b && leq b a) = same a b := by
  rw [Bool.eq_iff_iff, Bool.and_eq_true, leq_iff ha hb, leq_iff hb ha, same_iff ha hb]
  constructor
  · rintro ⟨h1, h2⟩ k; have := h1 k; have := h2 k; omega
  · intro h; exact ⟨fun k => by have := h k; omega, fun k => by have := h k; omega⟩
include hc
theorem law_lub (h1 : leq a c = true) (h2 : leq b c = true) : leq (join a b) c = true := by
  rw [leq_iff ha hc] at h1; rw [leq_iff hb hc] at h2
  refine (leq_iff (join_st ha hb).ok hc).2 (fun k => ?_)
  rw [rk_join ha hb]
  have := h1 k; have := h2 k
  omega
theorem law_glb (h1 : leq c a = true) (h2 : leq c b = true) : leq c (meet a b) = true := by
  rw [leq_iff hc ha] at h1; rw [leq_iff hc hb] at h2
  refine (leq_iff hc (meet_st ha hb).ok).2 (fun k => ?_)
  rw [rk_meet ha hb]
  have := h1 k; have := h2 k
  omega
theorem law_assoc : join (join a b) c = join a (join b c) := norm_same ((join_st ha hb).ok.app hc) (ha.app (join_st hb hc).ok) (fun k => by
  rw [gt_app (join_st ha hb).ok hc, gt_app ha (join_st hb hc).ok, rk_join ha hb, rk_join hb hc]; omega)
theorem law_dist : meet a (join b c) = join (meet a b) (meet a c) := by
  have h1 := (join_st hb hc).ok
  refine norm_eq (meet_st ha h1) ((meet_st ha hb).ok.app (meet_st ha hc).ok) (fun k => ?_)
  rw [← gt_st (meet_st ha h1), rk_meet ha h1, rk_join hb hc, gt_app (meet_st ha hb).ok (meet_st ha hc).ok, rk_meet ha hb, rk_meet ha hc]
  omega
end
theorem okR_flat {l : List (List Am)} (h : ∀ x ∈ l, OkR x) : OkR l.flatten := fun a ha => by
  obtain ⟨x, hx, hax⟩ := List.mem_flatten.1 ha
  exact h x hx a hax
theorem join_norm {a b : List Am} (ha : OkR a) (hb : OkR b) : join (norm a) b = norm (a ++ b) := norm_same ((norm_st ha).ok.app hb) (ha.app hb) (fun k => by
  rw [gt_app (norm_st ha).ok hb, gt_norm ha, gt_app ha hb])
end Go.Proofs.Ytgggjhbijnndhaa
namespace Go.Proofs.Ytgggjhbijnndhaa

theorem right_pos {a : Am} (h : a.right = true) (ha : a.Ok) : 0 < a.v.rn := by
  have hn : 0 < a.v.n := by
    unfold Am.right valB at h
    rw [Bool.and_eq_true] at h
    have h2 := h.2
    split at h2
    · unfold betweenB at h2; simp only [Bool.and_eq_true, decide_eq_true_eq] at h2; omega
    · split at h2
      · unfold lineB stampB at h2; simp only [Bool.and_eq_true, decide_eq_true_eq] at h2
        have h3 := h2.1.2.1
        have h4 : a.v.n / 256 ≠ 0 := fun e => by rw [e] at h3; exact absurd h3 (by decide)
        have h5 := ha.v.n0
        omega
      · unfold betweenB at h2; simp only [Bool.and_eq_true, decide_eq_true_eq] at h2; omega
  have := ha.v.tr
  unfold Vl.rn; omega
def cov (f : Ky → Option Vl) (x : Am) : Bool := over ((f x.k).getD vzero) x.v
theorem cov_leA {f : Ky → Option Vl} {x : Am} (hx : x.Ok) (hr : x.right = true) : cov f x = leA f x := by
  unfold cov leA
  cases e : f x.k with
  | none =>
    rw [Option.getD_none, over_rn vzero_ok hx.v, rn_zero]
    have := right_pos hr hx
    exact decide_eq_false (by omega)
  | some w => rfl
theorem fnd_iff {s : List Am} (h : St s) {k : Ky} {v : Vl} : fnd s k = some v ↔ (⟨k, v⟩ : Am) ∈ s := ⟨fnd_mem, fun hm => fnd_of_mem h hm⟩
theorem St.filter {s : List Am} (h : St s) (p : Am → Bool) : St (s.filter p) :=
  ⟨h.ok.sub (fun _ ha => (List.mem_filter.1 ha).1), fun a ha => h.rt a (List.mem_filter.1 ha).1, List.Pairwise.filter p h.so⟩
theorem fnd_yes {s : List Am} (h : St s) {p : Am → Bool} {k : Ky} {v : Vl} (e : fnd s k = some v) (hp : p ⟨k, v⟩ = true) : fnd (s.filter p) k = some v :=
  (fnd_iff (h.filter p)).2 (List.mem_filter.2 ⟨fnd_mem e, hp⟩)
theorem fnd_out {s : List Am} (h : St s) {p : Am → Bool} {k : Ky} (hp : ∀ v, fnd s k = some v → p ⟨k, v⟩ = false) : fnd (s.filter p) k = none := by
  cases e : fnd (s.filter p) k with
  | none => rfl
  | some v =>
    have hm := List.mem_filter.1 (fnd_mem e)
    have := hp v ((fnd_iff h).2 hm.1)
    rw [hm.2] at this
    cases this
theorem st_empty {s : List Am} (h : St s) (hk : ∀ k, rk (fnd s k) = -1) : s = [] := by
  cases s with
  | nil => rfl
  | cons a s =>
    have h1 := hk a.k
    have h2 := fnd_of_mem h (List.mem_cons_self (a := a) (l := s))
    rw [h2, rk_some] at h1
    have := rn_pos (h.ok.head).v
    omega

/-! The parts of a row, and a row in two. -/
def parts (l : List Am) : List (List Am) := (norm l).map fun x => [x]
theorem flat_ones : ∀ (s : List Am), (s.map fun x => [x]).flatten = s
  | [] => rfl
  | a :: s => by rw [List.map_cons, List.flatten_cons, flat_ones s]; rfl
theorem parts_all {l : List Am} (h : OkR l) : norm (parts l).flatten = norm l := by
  unfold parts; rw [flat_ones, norm_id (norm_st h)]
theorem split_all {l : List Am} (h : OkR l) (p : Am → Bool) : norm ((norm l).filter p ++ (norm l).filter (fun x => !p x)) = norm l := by
  have hs := norm_st h
  have h1 := hs.filter p
  have h2 := hs.filter (fun x => !p x)
  refine (norm_eq hs (h1.ok.app h2.ok) (fun k => ?_)).symm
  rw [gt_app h1.ok h2.ok, gt_st h1, gt_st h2]
  cases e : fnd (norm l) k with
  | none =>
    rw [fnd_out hs (fun v hv => by rw [e] at hv; cases hv), fnd_out hs (fun v hv => by rw [e] at hv; cases hv)]; rfl
  | some v =>
    have hv := rn_pos (hs.ok _ (fnd_mem e)).v
    simp only at hv
    cases hp : p ⟨k, v⟩ with
    | true =>
      rw [fnd_yes hs e hp, fnd_out hs (p := fun x => !p x) (fun u hu => by rw [e] at hu; cases hu; simp [hp])]
      simp only [rk]; omega
    | false =>
      rw [fnd_yes hs (p := fun x => !p x) e (by simp [hp]), fnd_out hs (fun u hu => by rw [e] at hu; cases hu; exact hp)]
      simp only [rk]; omega

/-! What a row's state lacks in another one's. -/
def diff (a b : List Am) : List Am := (norm a).filter fun x => !cov (gt b) x
theorem diff_st {a b : List Am} (ha : OkR a) : St (diff a b) := (norm_st ha).filter _
theorem rk_diff {a b : List Am} (ha : OkR a) (hb : OkR b) (k : Ky) : rk (gt (diff a b) k) = if rk (gt a k) ≤ rk (gt b k) then -1 else rk (gt a k) := by
  have hs := norm_st ha
  have hg := rk_ge ((gt_ok hb).o k)
  rw [gt_st (diff_st ha), ← fnd_norm ha]
  unfold diff
  cases e : fnd (norm a) k with
  | none =>
    rw [fnd_out hs (fun v hv => by rw [e] at hv; cases hv), rk_none, if_pos hg]
  | some v =>
    have hm := fnd_mem e
    have hc : cov (gt b) ⟨k, v⟩ = decide (v.rn ≤ rk (gt b k)) := by rw [cov_leA (hs.ok _ hm) (hs.rt _ hm), leA_rk (gt_ok hb) (hs.ok _ hm)]
    by_cases h : v.rn ≤ rk (gt b k)
    · rw [fnd_out hs (fun u hu => by rw [e] at hu; cases hu; rw [hc, decide_eq_true h]; rfl), rk_some, if_pos h, rk_none]
    · rw [fnd_yes hs e (by rw [hc, decide_eq_false h]; rfl), rk_some, if_neg h]
section
variable {a b c : List Am} (ha : OkR a) (hb : OkR b) (hc : OkR c)
include ha hb
theorem law_dj : join (diff a b) b = join a b := norm_same ((diff_st ha).ok.app hb) (ha.app hb) (fun k => by
  rw [gt_app (diff_st ha).ok hb, gt_app ha hb, rk_diff ha hb]
  have := rk_ge ((gt_ok hb).o k)
  split <;> omega)
theorem law_da : leq (diff a b) a = true := (leq_iff (diff_st ha).ok ha).2 (fun k => by
  rw [rk_diff ha hb]
  have := rk_ge ((gt_ok ha).o k)
  split <;> omega)
theorem law_dd : diff (diff a b) (join a b) = [] := st_empty (diff_st (diff_st ha).ok) (fun k => by
  rw [← gt_st (diff_st (diff_st ha).ok), rk_diff (diff_st ha).ok (join_st ha hb).ok, rk_diff ha hb, rk_join ha hb]
  have := rk_ge ((gt_ok ha).o k)
  have := rk_ge ((gt_ok hb).o k)
  split <;> split <;> omega)
include hc
theorem law_least (h : join c b = join a b) : leq (diff a b) c = true := (leq_iff (diff_st ha).ok hc).2 (fun k => by
  have h1 := rk_join hc hb k
  rw [h, rk_join ha hb] at h1
  rw [rk_diff ha hb]
  have := rk_ge ((gt_ok hc).o k)
  split <;> omega)
end
theorem diff_self {a : List Am} (ha : OkR a) : diff a a = [] := st_empty (diff_st ha) (fun k => by rw [← gt_st (diff_st ha), rk_diff ha ha, if_pos (Int.le_refl _)])
theorem diff_nil {a : List Am} (ha : OkR a) : diff a [] = norm a := norm_eq (diff_st ha) ha (fun k => by
  rw [← gt_st (diff_st ha), rk_diff ha okR_nil]
  have := rk_ge ((gt_ok ha).o k)
  have h0 : rk (gt [] k) = -1 := rfl
  split <;> omega)

/-! Rows that may be left out, one after another. -/
def wo (m : List (List Am)) (i : Nat) : List Am := (m.set i []).flatten
def OkM (m : List (List Am)) : Prop := ∀ x ∈ m, OkR x
theorem OkM.at_ {m : List (List Am)} (h : OkM m) (i : Nat) : OkR (m.getD i []) := by
  rw [List.getD_eq_getElem?_getD]
  cases e : m[i]? with
  | none => exact okR_nil
  | some r => exact h r (List.mem_of_getElem? e)
theorem OkM.set {m : List (List Am)} (h : OkM m) (i : Nat) : OkM (m.set i []) := fun x hx => by
  rcases List.mem_or_eq_of_mem_set hx with h1 | rfl
  · exact h x h1
  · exact okR_nil
theorem OkM.flat {m : List (List Am)} (h : OkM m) : OkR m.flatten := okR_flat h
theorem OkM.wo {m : List (List Am)} (h : OkM m) (i : Nat) : OkR (wo m i) := (h.set i).flat
theorem cut_at {m : List (List Am)} {i : Nat} (h : i < m.length) : m = m.take i ++ m.getD i [] :: m.drop (i + 1) ∧ m.set i [] = m.take i ++ [] :: m.drop (i + 1) := by
  constructor
  · rw [List.getD_eq_getElem?_getD, List.getElem?_eq_getElem h, Option.getD_some, ← List.drop_eq_getElem_cons h, List.take_append_drop]
  · exact List.set_eq_take_append_cons_drop.trans (by rw [if_pos h])
theorem gt_wo {m : List (List Am)} (hm : OkM m) {i : Nat} (h : i < m.length) (k : Ky) : rk (gt m.flatten k) = max (rk (gt (m.getD i []) k)) (rk (gt (wo m i) k)) := by
  have h1 : OkR (m.take i).flatten := okR_flat (fun x hx => hm x (List.mem_of_mem_take hx))
  have h2 : OkR (m.drop (i + 1)).flatten := okR_flat (fun x hx => hm x (List.mem_of_mem_drop hx))
  have h3 := hm.at_ i
  unfold wo
  rw [(cut_at h).2]
  conv => lhs; rw [(cut_at h).1]
  rw [List.flatten_append, List.flatten_append, List.flatten_cons, List.flatten_cons, List.nil_append, gt_app h1 (h3.app h2), gt_app h3 h2, gt_app h1 h2]
  omega
theorem gt_row_le {m : List (List Am)} (hm : OkM m) {r : List Am} (h : r ∈ m) (k : Ky) : rk (gt r k) ≤ rk (gt m.flatten k) := by
  obtain ⟨i, hi, rfl⟩ := List.getElem_of_mem h
  rw [gt_wo hm hi k, List.getD_eq_getElem?_getD, List.getElem?_eq_getElem hi, Option.getD_some]
  omega
theorem gt_flat_some : ∀ {m : List (List Am)}, OkM m → ∀ {k : Ky} {v : Vl}, gt m.flatten k = some v → ∃ r ∈ m, gt r k = some v
  | [], _, k, v, h => by cases h
  | r :: m, hm, k, v, h => by
    have h1 := hm r (List.mem_cons_self ..)
    have h2 : OkM m := fun x hx => hm x (List.mem_cons_of_mem _ hx)
    have e := gt_app h1 h2.flat k
    rw [← List.flatten_cons, h, rk_some] at e
    by_cases hle : rk (gt m.flatten k) ≤ rk (gt r k)
    · refine ⟨r, List.mem_cons_self .., rk_inj ((gt_ok h1).o k) (ok_some ((gt_ok (hm.flat)).v _ _ h)) (by rw [rk_some]; omega)⟩
    · have e2 : gt m.flatten k = some v := rk_inj ((gt_ok h2.flat).o k) (ok_some ((gt_ok (hm.flat)).v _ _ h)) (by rw [rk_some]; omega)
      obtain ⟨r', hr, e3⟩ := gt_flat_some h2 e2
      exact ⟨r', List.mem_cons_of_mem _ hr, e3⟩
/-- The atoms of a row's state that the whole has too. -/
def isTop (S : Ky → Option Vl) (x : Am) : Bool := decide ((S x.k).getD vzero = x.v)
def top (S : Ky → Option Vl) (r : List Am) : List Am := (norm r).filter (isTop S)
theorem isTop_iff {S : Ky → Option Vl} {x : Am} (hx : x.Ok) (hr : x.right = true) : isTop S x = true ↔ S x.k = some x.v := by
  unfold isTop
  rw [decide_eq_true_eq]
  cases e : S x.k with
  | none =>
    rw [Option.getD_none]
    refine ⟨fun h => ?_, fun h => by cases h⟩
    have := right_pos hr hx
    rw [← h, rn_zero] at this
    omega
  | some w => rw [Option.getD_some]; exact ⟨fun h => by rw [h], fun h => Option.some.inj h⟩
theorem mem_top {S : Ky → Option Vl} {r : List Am} (hr : OkR r) {k : Ky} {v : Vl} : (⟨k, v⟩ : Am) ∈ top S r ↔ gt r k = some v ∧ S k = some v := by
  have hs := norm_st hr
  unfold top
  rw [List.mem_filter, ← fnd_norm hr, fnd_iff hs]
  exact ⟨fun h => ⟨h.1, (isTop_iff (hs.ok _ h.1) (hs.rt _ h.1)).1 h.2⟩, fun h => ⟨h.1, (isTop_iff (hs.ok _ h.1) (hs.rt _ h.1)).2 h.2⟩⟩
theorem st_nodup {s : List Am} (h : St s) : s.Nodup := List.Pairwise.imp (fun h e => by rw [e] at h; omega) h.so
theorem top_st {S : Ky → Option Vl} {r : List Am} (hr : OkR r) : St (top S r) := (norm_st hr).filter _
theorem top_one {S : Ky → Option Vl} {r : List Am} (hr : OkR r) (a : Am) : (top S r).count a ≤ 1 := List.nodup_iff_count.1 (st_nodup (top_st hr)) a
def cnt (S : Ky → Option Vl) (m : List (List Am)) (a : Am) : Nat := (m.map (top S)).flatten.count a
theorem cnt_wo (S : Ky → Option Vl) {m : List (List Am)} {i : Nat} (h : i < m.length) (a : Am) : cnt S m a = (top S (m.getD i [])).count a + cnt S (m.set i []) a := by
  unfold cnt
  rw [(cut_at h).2]
  conv => lhs; rw [(cut_at h).1]
  have e : top S [] = [] := rfl
  simp only [List.map_append, List.map_cons, List.flatten_append, List.flatten_cons, List.count_append, e, List.count_nil]
  omega
theorem cnt_pos {S : Ky → Option Vl} {m : List (List Am)} {a : Am} : 0 < cnt S m a ↔ ∃ r ∈ m, a ∈ top S r := by
  unfold cnt
  rw [List.count_pos_iff, List.mem_flatten]
  constructor
  · rintro ⟨l, h1, h2⟩
    obtain ⟨r, h3, rfl⟩ := List.mem_map.1 h1
    exact ⟨r, h3, h2⟩
  · rintro ⟨r, h1, h2⟩
    exact ⟨_, List.mem_map.2 ⟨r, h1, rfl⟩, h2⟩
def spare (S : Ky → Option Vl) (m : List (List Am)) (r : List Am) : Bool := !((top S r).any fun a => decide (cnt S m a = 1))
theorem spare_is {S : Ky → Option Vl} (hS : OkF S) {m : List (List Am)} (hm : OkM m) (hw : ∀ k, rk (gt m.flatten k) = rk (S k)) {i : Nat} (hi : i < m.length) :
    spare S m (m.getD i []) = leq (m.getD i []) (wo m i) := by
  have hr := hm.at_ i
  have ho := hm.wo i
  rw [Bool.eq_iff_iff]
  unfold spare
  rw [Bool.not_eq_true', List.any_eq_false, leq_iff hr ho]
  constructor
  · intro h k
    have h1 := gt_wo hm hi k
    rw [hw k] at h1
    by_cases hle : rk (gt (m.getD i []) k) ≤ rk (gt (wo m i) k)
    · exact hle
    exfalso
    have hg := rk_ge ((gt_ok ho).o k)
    cases e : gt (m.getD i []) k with
    | none => rw [e, rk_none] at hle; omega
    | some v =>
      have hv := (gt_ok hr).v _ _ e
      have e2 : S k = some v := rk_inj (hS.o k) (ok_some hv) (by rw [rk_some]; rw [e, rk_some] at h1 hle; omega)
      have hmem : (⟨k, v⟩ : Am) ∈ top S (m.getD i []) := (mem_top hr).2 ⟨e, e2⟩
      have hn := h _ hmem
      have h3 := cnt_wo S hi ⟨k, v⟩
      have h4 := top_one (S := S) hr ⟨k, v⟩
      have h5 : 0 < (top S (m.getD i [])).count ⟨k, v⟩ := List.count_pos_iff.2 hmem
      have h6 : ¬ cnt S m ⟨k, v⟩ = 1 := fun e9 => hn (decide_eq_true e9)
      obtain ⟨r, hr1, hr2⟩ := cnt_pos.1 (show 0 < cnt S (m.set i []) ⟨k, v⟩ by omega)
      have h7 := (mem_top ((hm.set i) r hr1)).1 hr2
      have h8 := gt_row_le (hm.set i) hr1 k
      rw [h7.1, rk_some] at h8
      rw [e, rk_some] at hle
      exact hle h8
  · intro h a ha hc
    have hc := of_decide_eq_true hc
    have hk := (mem_top (k := a.k) (v := a.v) hr).1 ha
    have h1 := h a.k
    have h2 := gt_wo hm hi a.k
    have hv := (gt_ok hr).v _ _ hk.1
    rw [hw, hk.2, hk.1, rk_some] at h2
    rw [hk.1, rk_some] at h1
    have e : gt (m.set i []).flatten a.k = some a.v := rk_inj ((gt_ok ho).o a.k) (ok_some hv) (by rw [rk_some]; unfold wo at h1 h2; omega)
    obtain ⟨r, hr1, hr2⟩ := gt_flat_some (hm.set i) e
    have h3 : 0 < cnt S (m.set i []) a := cnt_pos.2 ⟨r, hr1, (mem_top ((hm.set i) r hr1)).2 ⟨hr2, hk.2⟩⟩
    have h5 : 0 < (top S (m.getD i [])).count a := List.count_pos_iff.2 ha
    have h6 := cnt_wo S hi a
    omega
def nstep (l : List (List Am)) (st : List (List Am) × List Nat) (i : Nat) : List (List Am) × List Nat := if leq (l.getD i []) (wo st.1 i) = true then (st.1.set i [], st.2 ++ [i]) else st
def nst (l : List (List Am)) (j : Nat) : List (List Am) × List Nat := (List.range j).foldl (nstep l) (l, [])
def needless (l : List (List Am)) : List Nat := (nst l l.length).2
theorem nst_succ (l : List (List Am)) (j : Nat) : nst l (j + 1) = nstep l (nst l j) j := by unfold nst; rw [List.range_succ, List.foldl_append]; rfl
structure NI (l : List (List Am)) (j : Nat) (st : List (List Am) × List Nat) : Prop where
  len : st.1.length = l.length
  rest : ∀ i, j ≤ i → st.1.getD i [] = l.getD i []
  ok : OkM st.1
  all : ∀ k, rk (gt st.1.flatten k) = rk (gt l.flatten k)
  lt : ∀ i ∈ st.2, i < j
  out : st.1 = st.2.foldl (fun m i => m.set i []) l
  few : st.2.length ≤ j
theorem nst_ni {l : List (List Am)} (hl : OkM l) : ∀ j, j ≤ l.length → NI l j (nst l j)
  | 0, _ => ⟨rfl, fun _ _ => rfl, hl, fun _ => rfl, fun _ h => (by cases h), rfl, Nat.le_refl _⟩
  | j + 1, hj => by
    have h := nst_ni hl j (by omega)
    rw [nst_succ]
    unfold nstep
    split
    · next hq =>
      have hi : j < (nst l j).1.length := by rw [h.len]; omega
      refine ⟨by simp [h.len], fun i hi2 => ?_, h.ok.set j, fun k => ?_, fun i hi2 => ?_, ?_, ?_⟩
      · rw [List.getD_eq_getElem?_getD, List.getElem?_set_ne (by omega), ← List.getD_eq_getElem?_getD]; exact h.rest i (by omega)
      · have h1 := gt_wo h.ok hi k
        rw [h.rest j (Nat.le_refl _), h.all] at h1
        have h2 := (leq_iff (hl.at_ j) (h.ok.wo j)).1 hq k
        unfold wo at h1 h2
        show rk (gt ((nst l j).1.set j []).flatten k) = _
        omega
      · rcases List.mem_append.1 hi2 with h9 | h9
        · have := h.lt i h9; omega
        · have := List.mem_singleton.1 h9; omega
      · rw [List.foldl_append, ← h.out]; rfl
      · have := h.few; simp; omega
    · exact ⟨h.len, fun i hi => h.rest i (by omega), h.ok, h.all, fun i hi => by have := h.lt i hi; omega, h.out, by have := h.few; omega⟩
theorem nst_spare {l : List (List Am)} (hl : OkM l) {j : Nat} (hj : j < l.length) : spare (gt l.flatten) (nst l j).1 (l.getD j []) = leq (l.getD j []) (wo (nst l j).1 j) := by
  have h := nst_ni hl j (by omega)
  have e := spare_is (gt_ok hl.flat) h.ok h.all (i := j) (by rw [h.len]; exact hj)
  rw [h.rest j (Nat.le_refl _)] at e
  exact e
end Go.Proofs.Ytgggjhbijnndhaa
