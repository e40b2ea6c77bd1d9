/- slices.Sort, slices.AppendSeq, slices.Collect and slices.Sorted at uint16. Written by wip/tools/srtW_r17.py. Rising rows of numbers, and what the hashes of a state pick: no program in it. slices.Sort and slices.Compact: ordered. -/
import Derived.Test.YtnpbmihbmilkbaaGreatG41
import Derived.Test.YtnpbmihbmilkbaaGreatG28
import Derived.Test.YtnpbmihbmilkbaaGreatG23
import Derived.Test.YtnpbmihbmilkbaaGreatG31
namespace Go.Proofs.YtnpbmihbmilkbaaGreat
open Go.RowKit Go.Shelf
attribute [local go_sem] Oper.semAt_some
theorem exec_convu {o : Oper} {a : Act} {w : World} (x : Operand) (ho : o.op = .convert 3 85 x) (r : Nat) (hx : a.eval x = .int .i64 (r : Int)) (hr : r ≤ 100000) :
    (execOp a.eval o).run Tryz.prog w = .ok (.value (.int .u64 (r : Int))) w := by
  have H := Lib.hid (show IntKind.u64.wrap (r : Int) = (r : Int) by
    show ((r : Int) % 18446744073709551616) = _
    omega)
  unfold execOp
  simp only [ho, hx]
  go_simp
  try exact H.out
set_option maxRecDepth 100000 in
theorem insert0_is (w : World) : Calls Tryz.prog 74 #[.slice none 0 0, .int .i64 0, .int .i64 0] w fun e w' => e = .returned (.tuple #[]) ∧ w' = w := by
  go_enter Tryz.func74, Tryz.ntmps74
  go_wp2_with fail
  refine wp_loop_rounds 1 ?_
  rw [rounds_succ]
  go_wp2_with fail
  go_end0
  exact ⟨rfl, rfl⟩
set_option maxRecDepth 100000 in
theorem pdq0_is (lim : Nat) (w : World) : Calls Tryz.prog 54 #[.slice none 0 0, .int .i64 0, .int .i64 0, .int .i64 (lim : Int)] w fun e w' => e = .returned (.tuple #[]) ∧ w' = w := by
  go_enter Tryz.func54, Tryz.ntmps54
  go_wp2_with fail
  refine wp_loop_rounds 1 ?_
  rw [rounds_succ]
  go_wp2_with fail
  refine (insert0_is _).mono ?_
  rintro e w1 ⟨rfl, rfl⟩
  go_wp2_with fail
  refine bodyPost_ret (results_none rfl _ _ _) rfl ?_
  exact ⟨rfl, rfl⟩
set_option maxRecDepth 100000 in
theorem sort0_is (w : World) : Calls Tryz.prog 39 #[.slice none 0 0] w fun e w' => e = .returned (.tuple #[]) ∧ w' = w := by
  go_enter Tryz.func39, Tryz.ntmps39
  go_wp2_with fail
  refine (len_is 0 _ (by omega)).mono ?_
  rintro e w1 ⟨⟨k, rfl, hk⟩, rfl⟩
  go_wp2_with fail
  refine (pdq0_is k _).mono ?_
  rintro e w1 ⟨rfl, rfl⟩
  go_wp2_with fail
  go_end0
  exact ⟨rfl, rfl⟩
set_option maxRecDepth 100000 in
theorem sort1_is (B g n cap : Nat) (l : List Int) (w : World) (h : OwnN w B (.slice (some ⟨g, 0, none⟩) n cap) l) (hn : n ≤ 10000) (hg : g < w.heap.size) :
    Calls Tryz.prog 39 #[(.slice (some ⟨g, 0, none⟩) n cap)] w fun e w' => e = .returned (.tuple #[]) ∧ ∃ m, OwnN w' B (.slice (some ⟨g, 0, none⟩) n cap) m ∧ m.Perm l ∧ Sd m 0 n ∧ Only g w w' := by
  have H := Lib.hid h
  have HL := Lib.hid h.len
  clear h
  go_enter Tryz.func39, Tryz.ntmps39
  go_wp2_with (refine wpList_val rfl _ (exec_convu _ rfl n rfl (by omega)) ?_)
  refine (len_is n _ hn).mono ?_
  rintro e w1 ⟨⟨k, rfl, hk⟩, rfl⟩
  go_wp2_with fail
  refine (pdq_all n B g n cap 0 n k l _ (by omega) H.out (Nat.le_refl _) hn (Nat.zero_le _) hk (fun h => absurd h (Nat.lt_irrefl _)) hg).mono ?_
  rintro e w1 ⟨rfl, o1, m, d1, p1, s1⟩
  have D1 := Lib.hid d1
  have P1 := Lib.hid p1
  have S1 := Lib.hid s1
  have O1 := Lib.hid o1
  clear d1 p1 s1 o1
  go_wp2_with fail
  go_end0
  exact ⟨rfl, m, D1.out, P1.out.perm, S1.out, O1.out⟩
/-- What a round of AppendSeq finds and leaves. -/
def AI2 (g2 : Nat) (w0 : World) (M B : Nat) (pre : List Int) (V : World) : Prop := ∃ D m c, Blk V g2 24 [.slice D m c] ∧ OwnN V B (.slice D m c) pre ∧ Below g2 w0 V ∧ pre.length ≤ M
theorem exec_storeS {o : Oper} {a : Act} {w : World} (x y : Operand) (ho : o.op = .store 24 x y) (g : Nat) (u : Value) (D : Option Addr) (m c : Nat) (hx : a.eval x = .pointer (some ⟨g, 0, none⟩)) (hy : a.eval y = .slice D m c) (hb : Blk w g 24 [u]) :
    (execOp a.eval o).run Tryz.prog w = .ok .skip (w.setCell ⟨g, 0, none⟩ (.slice D m c)) := by
  have hc := hb.cell (i := 0) rfl
  have hf := hb.frozen 0
  unfold execOp
  simp only [ho, hx, hy]
  simp [go_sem, hc, hf]
theorem wpList_storeS {ops : Array Oper} {rest : List Oper} {op : Oper} {a : Act} {w : World} {Q : Exit → Act → World → Prop} (hgd : op.guard = none) (x y : Operand) (ho : op.op = .store 24 x y) (g : Nat) (u : Value) (D : Option Addr) (m c : Nat) (hx : a.eval x = .pointer (some ⟨g, 0, none⟩)) (hy : a.eval y = .slice D m c) (hb : Blk w g 24 [u])
    (h : ∀ w', Hid (Blk w' g 24 [.slice D m c]) → Hid (Only g w w') → wpList Tryz.prog ops Q rest (a.put op.dst undef) w') : wpList Tryz.prog ops Q (op :: rest) a w := by
  refine wpList_plain hgd fun K hK => ?_
  unfold Oper.wp
  rw [exec_storeS x y ho g u D m c hx hy hb]
  exact hK _ _ (h _ (Lib.hid (hb.set 0 (.slice D m c))) (Lib.hid (Only.set g 0 w (.slice D m c))))
theorem OwnN.geS {w : World} {B : Nat} {v : Value} {l : List Int} {i : Nat} (h : OwnN w B v l) (hi : i < B) : ∀ k, v.ownBlock = some k → k ≠ i := fun k e => by have := (h.row.lt k e).1; omega
theorem OwnN.putS {w : World} {B : Nat} {v : Value} {l : List Int} {i : Nat} {o : Obj} (h : OwnN w B v l) (hn : ∀ k, v.ownBlock = some k → k ≠ i) : OwnN (w.putObj i o) B v l := h.only (only_putObj w i o) hn
end Go.Proofs.YtnpbmihbmilkbaaGreat
namespace Go.Proofs.YtnpbmihbmilkbaaGreat
def Asc (l : List Int) : Prop := l.Pairwise (· < ·)
def put1 (x : Int) : List Int → List Int
  | [] => [x]
  | y :: t => if y = x then y :: t else if x < y then x :: y :: t else y :: put1 x t
theorem mem_put1 (x y : Int) : ∀ l : List Int, y ∈ put1 x l ↔ y = x ∨ y ∈ l
  | [] => by simp [put1]
  | z :: t => by
    unfold put1
    split
    · rename_i h; subst h; simp
    · split
      · simp
      · rw [List.mem_cons, List.mem_cons, mem_put1 x y t]
        constructor
        · rintro (h | h | h) <;> simp [h]
        · rintro (h | h | h) <;> simp [h]
theorem asc_put1 (x : Int) : ∀ {l : List Int}, Asc l → Asc (put1 x l)
  | [], _ => List.pairwise_singleton _ _
  | z :: t, h => by
    unfold put1
    obtain ⟨h1, h2⟩ := List.pairwise_cons.1 h
    split
    · exact h
    · split
      · rename_i hne hlt
        refine List.pairwise_cons.2 ⟨fun y hy => ?_, h⟩
        rcases List.mem_cons.1 hy with rfl | hy
        · exact hlt
        · exact Int.lt_trans hlt (h1 y hy)
      · rename_i hne hlt
        refine List.pairwise_cons.2 ⟨fun y hy => ?_, asc_put1 x h2⟩
        rcases (mem_put1 x y t).1 hy with rfl | hy
        · omega
        · exact h1 y hy
theorem put1_len (x : Int) : ∀ l : List Int, (put1 x l).length ≤ l.length + 1
  | [] => Nat.le_refl _
  | z :: t => by
    unfold put1
    split
    · simp
    · split
      · simp
      · simp only [List.length_cons]; have := put1_len x t; omega
def rise (l : List Int) : List Int := l.foldl (fun acc x => put1 x acc) []
theorem rise_nil : rise [] = [] := rfl
theorem rise_snoc (l : List Int) (x : Int) : rise (l ++ [x]) = put1 x (rise l) := List.foldl_append ..
theorem asc_rise_from : ∀ (l : List Int) {acc : List Int}, Asc acc → Asc (l.foldl (fun acc x => put1 x acc) acc)
  | [], _, h => h
  | x :: t, _, h => asc_rise_from t (asc_put1 x h)
theorem asc_rise (l : List Int) : Asc (rise l) := asc_rise_from l List.Pairwise.nil
theorem mem_rise_from (y : Int) : ∀ (l acc : List Int), y ∈ l.foldl (fun acc x => put1 x acc) acc ↔ y ∈ l ∨ y ∈ acc
  | [], acc => by simp
  | x :: t, acc => by
    rw [List.foldl_cons, mem_rise_from y t, mem_put1, List.mem_cons]
    constructor
    · rintro (h | h | h) <;> simp [h]
    · rintro ((h | h) | h) <;> simp [h]
theorem mem_rise {y : Int} {l : List Int} : y ∈ rise l ↔ y ∈ l := by
  unfold rise
  rw [mem_rise_from]
  simp
theorem asc_ext : ∀ {a b : List Int}, Asc a → Asc b → (∀ x, x ∈ a ↔ x ∈ b) → a = b
  | [], [], _, _, _ => rfl
  | [], y :: t, _, _, h => by have := (h y).2 (List.mem_cons_self ..); cases this
  | x :: s, [], _, _, h => by have := (h x).1 (List.mem_cons_self ..); cases this
  | x :: s, y :: t, ha, hb, h => by
    obtain ⟨a1, a2⟩ := List.pairwise_cons.1 ha
    obtain ⟨b1, b2⟩ := List.pairwise_cons.1 hb
    have e : x = y := by
      rcases List.mem_cons.1 ((h x).1 (List.mem_cons_self ..)) with e | e
      · exact e
      · rcases List.mem_cons.1 ((h y).2 (List.mem_cons_self ..)) with e2 | e2
        · exact e2.symm
        · have := b1 x e; have := a1 y e2; omega
    subst e
    congr 1
    refine asc_ext a2 b2 fun z => ⟨fun hz => ?_, fun hz => ?_⟩
    · rcases List.mem_cons.1 ((h z).1 (List.mem_cons_of_mem _ hz)) with e | e
      · have := a1 z hz; omega
      · exact e
    · rcases List.mem_cons.1 ((h z).2 (List.mem_cons_of_mem _ hz)) with e | e
      · have := b1 z hz; omega
      · exact e
theorem rise_eq {a l : List Int} (h : Asc a) (hm : ∀ x, x ∈ a ↔ x ∈ l) : a = rise l := asc_ext h (asc_rise l) fun x => by rw [mem_rise, hm]
theorem rise_len_from : ∀ (l acc : List Int), (l.foldl (fun acc x => put1 x acc) acc).length ≤ l.length + acc.length
  | [], acc => by simp
  | x :: t, acc => by
    rw [List.foldl_cons, List.length_cons]
    have := rise_len_from t (put1 x acc)
    have := put1_len x acc
    omega
theorem rise_len (l : List Int) : (rise l).length ≤ l.length := by have := rise_len_from l []; simpa [rise] using this
theorem put1_has {x : Int} : ∀ {l : List Int}, Asc l → x ∈ l → put1 x l = l := fun {l} h hx => asc_ext (asc_put1 x h) h fun y => by
  rw [mem_put1]
  exact ⟨fun e => e.elim (fun e => e ▸ hx) id, Or.inr⟩
theorem put1_new (x : Int) : ∀ {l : List Int}, x ∉ l → (put1 x l).length = l.length + 1
  | [], _ => rfl
  | z :: t, h => by
    unfold put1
    rw [if_neg (fun e : z = x => h (by rw [e]; exact List.mem_cons_self ..))]
    split
    · simp
    · simp only [List.length_cons]
      rw [put1_new x fun e => h (List.mem_cons_of_mem _ e)]
theorem rise_len_snoc (l : List Int) (x : Int) : (rise (l ++ [x])).length = if x ∈ l then (rise l).length else (rise l).length + 1 := by
  rw [rise_snoc]
  split
  · rename_i h; rw [put1_has (asc_rise l) (mem_rise.2 h)]
  · rename_i h; rw [put1_new x fun e => h (mem_rise.1 e)]
theorem rise_nodup (l : List Int) : (rise l).length = l.length ↔ l.Nodup := by
  have key : ∀ r : List Int, (rise r.reverse).length = r.length ↔ r.Nodup := fun r => by
    induction r with
    | nil => simp [rise_nil]
    | cons x t ih =>
      rw [List.reverse_cons, rise_len_snoc, List.nodup_cons, List.length_cons]
      have hle := rise_len t.reverse
      rw [List.length_reverse] at hle
      split
      · rename_i h
        rw [List.mem_reverse] at h
        exact ⟨fun e => by omega, fun e => absurd h e.1⟩
      · rename_i h
        rw [List.mem_reverse] at h
        rw [← ih]
        exact ⟨fun e => ⟨h, by omega⟩, fun e => by omega⟩
  have := key l.reverse
  rw [List.reverse_reverse, List.length_reverse] at this
  rw [this]
  exact List.pairwise_reverse.trans ⟨fun h => h.imp fun e q => e q.symm, fun h => h.imp fun e q => e q.symm⟩
theorem asc_nodup {l : List Int} (h : Asc l) : l.Nodup := h.imp fun e => by omega
/-! What hashes pick. -/
section
variable (f : Am → Int)
def pickS (want : List Int) (s : List Am) : List Am := s.filter fun a => want.contains (f a)
theorem pickS_snoc (want : List Int) (s : List Am) (x : Am) : pickS f want (s ++ [x]) = if want.contains (f x) = true then pickS f want s ++ [x] else pickS f want s := by
  unfold pickS
  rw [List.filter_append]
  cases h : want.contains (f x)
  · rw [List.filter_cons_of_neg (by rw [h]; exact Bool.false_ne_true), List.filter_nil, List.append_nil]; rfl
  · rw [List.filter_cons_of_pos (by exact h), List.filter_nil]; rfl
theorem pickS_len (want : List Int) (s : List Am) : (pickS f want s).length ≤ s.length := List.length_filter_le ..
def keysS (s : List Am) : List Int := rise (s.map f)
/-- Do two atoms have one hash? -/
def clashS (s : List Am) : Bool := decide ((keysS f s).length < s.length)
theorem keysS_len (s : List Am) : (keysS f s).length ≤ s.length := by have := rise_len (s.map f); rwa [List.length_map] at this
theorem clashS_not (s : List Am) : (decide ((keysS f s).length = s.length)) = !clashS f s := by
  have := keysS_len f s
  unfold clashS
  rw [Bool.eq_iff_iff]
  simp
  omega
theorem clash_false {s : List Am} : clashS f s = false ↔ (s.map f).Nodup := by
  have h := rise_nodup (s.map f)
  have h2 := keysS_len f s
  rw [List.length_map] at h
  rw [← h]
  unfold clashS keysS at *
  simp
  omega
theorem nodup_filter (s : List Am) : (s.map f).Nodup ↔ ∀ k, (s.filter fun a => decide (f a = k)).length ≤ 1 := by
  induction s with
  | nil => simp
  | cons a t ih =>
    rw [List.map_cons, List.nodup_cons, ih]
    constructor
    · rintro ⟨h1, h2⟩ k
      by_cases h : f a = k
      · have e : t.filter (fun a => decide (f a = k)) = [] := List.filter_eq_nil_iff.2 fun x hx => by
          intro e
          exact h1 (List.mem_map.2 ⟨x, hx, by rw [of_decide_eq_true e, h]⟩)
        rw [List.filter_cons, if_pos (decide_eq_true h), e]
        simp
      · rw [List.filter_cons, if_neg (by simpa using h)]
        exact h2 k
    · intro h
      refine ⟨fun hm => ?_, fun k => ?_⟩
      · obtain ⟨x, hx, e⟩ := List.mem_map.1 hm
        have q := h (f a)
        rw [List.filter_cons, if_pos (decide_eq_true rfl), List.length_cons] at q
        have : 0 < (t.filter fun b => decide (f b = f a)).length := List.length_pos_of_mem (List.mem_filter.2 ⟨hx, decide_eq_true e⟩)
        omega
      · have q := h k
        rw [List.filter_cons] at q
        split at q
        · simp only [List.length_cons] at q; omega
        · exact q
theorem clash_some {s : List Am} : clashS f s = true ↔ ∃ k, 1 < (s.filter fun a => decide (f a = k)).length := by
  rw [← Bool.not_eq_false, clash_false, nodup_filter]
  constructor
  · intro h
    exact Classical.byContradiction fun e => h fun k => Nat.le_of_not_lt fun q => e ⟨k, q⟩
  · rintro ⟨k, hk⟩ h
    have := h k
    omega
theorem pick_one (k : Int) (s : List Am) : pickS f [k] s = s.filter fun a => decide (f a = k) := List.filter_congr fun x _ => by simp
theorem pick_all (s : List Am) : pickS f (keysS f s) s = s := List.filter_eq_self.2 fun x hx => by
  rw [List.contains_iff_mem]
  exact mem_rise.2 (List.mem_map.2 ⟨x, hx, rfl⟩)
/-- The law of P2004. -/
theorem pick_own {a b : List Am} {x : Am} (hx : x ∈ pickS f (rise ((keysS f a).filter fun z => !(keysS f b).contains z)) a) : x ∉ b := fun hb => by
  obtain ⟨_, h⟩ := List.mem_filter.1 hx
  rw [List.contains_iff_mem, mem_rise, List.mem_filter] at h
  have h2 := h.2
  have h3 : (keysS f b).contains (f x) = true := List.contains_iff_mem.2 (mem_rise.2 (List.mem_map.2 ⟨x, hb, rfl⟩))
  rw [h3] at h2
  cases h2
end
end Go.Proofs.YtnpbmihbmilkbaaGreat
namespace Go.Proofs.YtnpbmihbmilkbaaGreat
open Go.RowKit Go.Shelf
theorem compUp (d : Array Int) : ∀ m, m ≤ d.size → (∀ p q, p < q → q < d.size → d[p]! ≤ d[q]!) → Asc (Lib.compactUpTo d m) ∧ (∀ x, x ∈ Lib.compactUpTo d m ↔ ∃ j, j < m ∧ d[j]! = x) ∧ (Lib.compactUpTo d m).length ≤ m
  | 0, _, _ => ⟨List.Pairwise.nil, fun x => by simp [Lib.compactUpTo], Nat.le_refl _⟩
  | m + 1, hm, hs => by
    obtain ⟨h1, h2, h3⟩ := compUp d m (by omega) hs
    rw [Lib.compactUpTo_succ]
    by_cases hk : Lib.keeps d m = true
    · rw [if_pos hk]
      have hne : m = 0 ∨ d[m]! ≠ d[m - 1]! := of_decide_eq_true hk
      refine ⟨List.pairwise_append.2 ⟨h1, List.pairwise_singleton _ _, fun x hx y hy => ?_⟩, fun x => ?_, by rw [List.length_append]; simp; exact h3⟩
      · obtain rfl := List.mem_singleton.1 hy
        obtain ⟨j, hj, e⟩ := (h2 x).1 hx
        have hne2 : d[m]! ≠ d[m - 1]! := hne.resolve_left (by omega)
        have a1 := hs (m - 1) m (by omega) (by omega)
        by_cases hjm : j = m - 1
        · subst hjm; omega
        · have a2 := hs j (m - 1) (by omega) (by omega); omega
      · rw [List.mem_append, h2, List.mem_singleton]
        constructor
        · rintro (⟨j, hj, e⟩ | e)
          · exact ⟨j, by omega, e⟩
          · exact ⟨m, by omega, e.symm⟩
        · rintro ⟨j, hj, e⟩
          by_cases hjm : j = m
          · exact .inr (by rw [← e, hjm])
          · exact .inl ⟨j, by omega, e⟩
    · rw [if_neg hk, List.append_nil]
      have hk2 : ¬ (m = 0 ∨ d[m]! ≠ d[m - 1]!) := fun e => hk (decide_eq_true e)
      have hm0 : m ≠ 0 := fun e => hk2 (.inl e)
      have hd : d[m]! = d[m - 1]! := Classical.byContradiction fun e => hk2 (.inr e)
      refine ⟨h1, fun x => ?_, by omega⟩
      rw [h2]
      constructor
      · rintro ⟨j, hj, e⟩; exact ⟨j, by omega, e⟩
      · rintro ⟨j, hj, e⟩
        by_cases hjm : j = m
        · exact ⟨m - 1, by omega, by rw [← hd, ← hjm]; exact e⟩
        · exact ⟨j, by omega, e⟩
theorem arr_getD (l : List Int) (j : Nat) : l.toArray[j]! = l.getD j 0 := by
  rw [List.getD_eq_getElem?_getD]
  by_cases h : j < l.length
  · rw [getElem!_pos _ j (by simpa using h), List.getElem?_eq_getElem h]; simp
  · rw [getElem!_neg _ j (by simpa using h), List.getElem?_eq_none (by omega)]; rfl
theorem comp_rise {l : List Int} (hs : Sd l 0 l.length) : Lib.compactUpTo l.toArray l.toArray.size = rise l := by
  obtain ⟨h1, h2, _⟩ := compUp l.toArray l.toArray.size (Nat.le_refl _) (fun p q h1 h2 => by rw [arr_getD, arr_getD]; exact hs p q (Nat.zero_le _) h1 (by simpa using h2))
  refine rise_eq h1 fun x => ?_
  rw [h2]
  constructor
  · rintro ⟨j, hj, rfl⟩
    rw [arr_getD, getD_at (by simpa using hj)]
    exact List.getElem_mem _
  · intro hx
    obtain ⟨j, hj, rfl⟩ := List.mem_iff_getElem.1 hx
    exact ⟨j, by simpa using hj, by rw [arr_getD, getD_at hj]⟩
theorem only_putRow {α : Type} [Inhabited α] (enc : α → Value) (w : World) (q g : Nat) (d : Array α) : Only g w (Sort.putRow enc (Sort.ahead w q) g 0 d) :=
  ⟨rfl, rfl, rfl, by simp, fun k _ hn => by
    show (w.heap.modify g _)[k]? = _
    rw [Array.getElem?_modify, if_neg (fun e => hn e.symm)]⟩
theorem compact_is (B g n cap : Nat) (l : List Int) (w : World) (h : OwnN w B (.slice (some ⟨g, 0, none⟩) n cap) l) (hn : n ≤ 10000) (hs : Sd l 0 l.length) :
    Calls Tryz.prog 40 #[.slice (some ⟨g, 0, none⟩) n cap] w fun e w' => (e = .returned (.slice (some ⟨g, 0, none⟩) (rise l).length cap) ∧ NumsAt w' (.slice (some ⟨g, 0, none⟩) (rise l).length cap) (rise l)) ∧ Only g w w' := by
  obtain rfl := h.len
  have H : Sort.Holds (Value.int .u64) w g 0 l.toArray := fun j hj => ⟨by rw [Nat.zero_add, h.cell (by simpa using hj), arr_getD], by rw [Nat.zero_add]; exact h.fz j⟩
  have hcap : l.length ≤ cap := by
    obtain ⟨a, c, e, ⟨hc, _⟩, _⟩ := h.at_
    cases e; exact hc
  have hsz : l.toArray.size = l.length := by simp
  have q := AnyE.slices_Compact Tryz.cmpU (Value.int .u64) (fun _ => rfl) (EqlAt.intD _ _ _) (NeqAt.intD _ _ _) 0 Tryz.zeroValue22 g 0 cap l.toArray w H (by rw [hsz]; omega) (by rw [hsz]; exact hcap)
  rw [hsz, ← hsz, comp_rise hs, hsz] at q
  refine Calls.mono q ?_
  rintro e w' ⟨rfl, k, rfl⟩
  have hle := rise_len l
  have hh := Sort.holds_putRow (Value.int .u64) (Sort.ahead w k) g 0 l.toArray (rise l ++ List.replicate (l.length - (rise l).length) 0).toArray (Sort.holds_ahead _ w k g 0 _ H) (by simp; omega)
  refine ⟨⟨rfl, some ⟨g, 0, none⟩, cap, rfl, ⟨by omega, fun e => by cases e⟩, h.ok.sub fun x hx => mem_rise.1 hx, fun h0 => ⟨g, 0, rfl, ?_, fun i hi => ?_⟩⟩, only_putRow _ _ _ _ _⟩
  · obtain ⟨a, c, ea, _, _, hx⟩ := h.at_
    obtain ⟨G, off, e, hG, _⟩ := hx (by omega)
    cases ea; cases e
    simpa using hG
  · have := (hh i (by simp; omega)).1
    rw [this, arr_getD, List.getD_eq_getElem?_getD, List.getD_eq_getElem?_getD, List.getElem?_append_left hi]
theorem compact0_is (w : World) : Calls Tryz.prog 40 #[.slice none 0 0] w fun e w' => e = .returned (.slice none 0 0) ∧ w' = w := by
  go_enter Tryz.func40, Tryz.ntmps40
  go_wp2_with fail
  go_ret
  exact ⟨rfl, rfl⟩
theorem perm_rise {a b : List Int} (h : a.Perm b) : rise a = rise b := asc_ext (asc_rise a) (asc_rise b) fun x => by rw [mem_rise, mem_rise, h.mem_iff]
theorem only_grown {g : Nat} {w w' : World} (h : Only g w w') : w.grownBy w' (some g) := ⟨h.os, h.tape, h.output, h.size, fun i hi hn => h.block i hi (fun e => hn (by rw [e]))⟩
set_option maxRecDepth 100000 in
set_option maxHeartbeats 4000000 in
theorem ordered_is (B : Nat) (v : Value) (l : List Int) (w : World) (h : OwnN w B v l) (hn : l.length ≤ 10000) (hB : B ≤ w.heap.size) :
    Calls Tryz.prog 26 #[v] w fun e w' => ∃ u, e = .returned u ∧ NumsAt w' u (rise l) ∧ w.grownBy w' v.ownBlock ∧ (∀ A n cap, v = .slice A n cap → ∃ m, u = .slice A m cap) := by
  rcases h.row.2 with ⟨hv, h0⟩ | ⟨g, cap, cur, hv, hg, hh, _⟩
  · subst hv
    have hl : l = [] := List.length_eq_zero_iff.1 (by simpa [nc_len] using h0)
    subst hl
    go_enter Tryz.func26, Tryz.ntmps26
    go_wp2_with fail
    refine (sort0_is _).mono ?_
    rintro e w1 ⟨rfl, rfl⟩
    go_wp2_with fail
    refine (compact0_is _).mono ?_
    rintro e w2 ⟨rfl, rfl⟩
    go_wp2_with fail
    go_ret
    exact ⟨_, rfl, nums_at_nil _, ⟨rfl, rfl, rfl, Nat.le_refl _, fun _ _ _ => rfl⟩, fun A n cap e => ⟨0, by cases e; rfl⟩⟩
  · subst hv
    have hgl := (Array.getElem?_eq_some_iff.1 hh).1
    have H := Lib.hid h
    have HG := Lib.hid hgl
    clear h hh hgl hg
    go_enter Tryz.func26, Tryz.ntmps26
    go_wp2_with fail
    refine (sort1_is B g l.length cap l _ H.out hn HG.out).mono ?_
    rintro e w1 ⟨rfl, m, d1, p1, s1, o1⟩
    have D1 := Lib.hid d1
    have P1 := Lib.hid p1
    have S1 := Lib.hid s1
    have O1 := Lib.hid o1
    have ML := Lib.hid p1.length_eq
    clear d1 p1 s1 o1
    go_wp2_with fail
    refine (compact_is B g l.length cap m _ D1.out hn (by rw [ML.out]; exact S1.out)).mono ?_
    rintro e w2 ⟨⟨rfl, n2⟩, o2⟩
    have N2 := Lib.hid n2
    have O2 := Lib.hid o2
    clear n2 o2
    go_wp2_with fail
    go_ret
    refine ⟨_, rfl, ?_, only_grown (O1.out.trans O2.out), fun A n c e => ?_⟩
    · rw [← perm_rise P1.out]; exact N2.out
    · cases e; exact ⟨_, rfl⟩
end Go.Proofs.YtnpbmihbmilkbaaGreat
