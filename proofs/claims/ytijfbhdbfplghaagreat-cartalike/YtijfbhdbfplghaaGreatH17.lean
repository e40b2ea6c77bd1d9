/- The contracts of find and of Rows of the reference. Steps of regions that draw their order: a slice of one atom is made; an atom is appended; a box is made. -/
import Derived.Test.YtijfbhdbfplghaaGreatH09
namespace Go.Proofs.YtijfbhdbfplghaaGreat
open Go.RowKit
theorem drop_getD {l : List Am} {j : Nat} (h : j < l.length) : l.drop j = l.getD j azero :: l.drop (j + 1) := by
  rw [List.drop_eq_getElem_cons h]
  simp [List.getD, List.getElem?_eq_getElem h]
theorem results_vlB {fn : Func} {t u : Tmp} (h : fn.results = #[.cell t 56, .tmp u]) (tmps : Array Value) (w : World) (g : Nat) (v : Vl) (hp : tmps.getD t undef = .pointer (some ⟨g, 0, none⟩)) (hb : Blk w g 56 v.cells) (hm : v.t.length = 8) :
    (results fn tmps).run Tryz.prog w = .ok (.tuple #[.agg v.cells.toArray, tmps.getD u undef]) w := by
  rw [results_cell_tmp h, hp]
  have := run_loadVar_row (P := Tryz.prog) w g 56 56 v.cells.toArray (0, 0) _ hb Tryz.underlying56 rfl (by rw [List.size_toArray]; exact size30 hm)
  simp [asAddr, this]
def GivesV (w : World) (o : Option Vl) (e : Ending) (w' : World) : Prop := e = .returned (.tuple #[.agg (o.getD vzero).cells.toArray, .bool o.isSome]) ∧ Below w.heap.size w w'
end Go.Proofs.YtijfbhdbfplghaaGreat
namespace Go.Proofs.YtijfbhdbfplghaaGreat
open Go.RowKit
theorem ready_one46 {ops : Array Oper} {Q : Exit → Act → World → Prop} {md : Region.Mode} {S : World → Prop} {fuel : Nat} {listed : Array Bool} {a : Act} {w : World} {i : Nat} {o : Oper} {rs : List Nat} (ho : ops[i]? = some o) (hg : o.guard = none) (x : Operand) (hop : o.op = .buildSlice 22 1 #[(0, x)]) (A : Am) (hx : a.eval x = .agg A.cells.toArray) (hA : A.Ok)
    (h : ∀ g w', g = w.heap.size → Blk w' g 58 A.cells → Below w.heap.size w w' → S w' ∧ wpAnyH Tryz.prog md ops Q S fuel (listed.setIfInBounds i true) (a.put o.dst (.slice (some ⟨g, 0, none⟩) 1 1)) w')
    (hs : AllReadyH Tryz.prog md ops Q S fuel listed a w rs) : AllReadyH Tryz.prog md ops Q S fuel listed a w (i :: rs) := by
  refine AllReadyH.cons ho (fun K hK => ?_) hs
  have hw : Region.wanted o (yielded ops a.tmps) = true := by simp [Region.wanted, hg]
  rw [if_pos hw]
  have H := h w.heap.size (w.alloc (.cells A.cells.toArray 58)) rfl (blk_alloc w 58 A.cells) (new_below w _)
  have hr := exec_one46 (w := w) x hop A hx hA
  unfold Oper.wp
  rw [hr]
  exact hK.out _ _ H.1 (fun _ => H.2)
theorem ready_app46 {ops : Array Oper} {Q : Exit → Act → World → Prop} {md : Region.Mode} {S : World → Prop} {fuel : Nat} {listed : Array Bool} {a : Act} {w : World} {i : Nat} {o : Oper} {rs : List Nat} (ho : ops[i]? = some o) (hg : o.guard = none) (s x : Operand)
    (hop : o.op = .call { callee := .builtin .append, args := #[s, x], argTypes := #[22, 22] }) (B : Nat) (v : Value) (l : List Am) (A : Am) (g : Nat) (hs' : a.eval s = v) (hx : a.eval x = .slice (some ⟨g, 0, none⟩) 1 1) (hown : OwnR w B v l) (hA : A.Ok) (hgb : Blk w g 58 A.cells) (hn : l.length ≤ 5000) (hB : B ≤ w.heap.size)
    (h : ∀ D m cap w', Hid (m = l.length + 1) → OwnR w' B (.slice D m cap) (l ++ [A]) → Below B w w' → w.grownBy w' v.ownBlock → S w' ∧ wpAnyH Tryz.prog md ops Q S fuel (listed.setIfInBounds i true) (a.put o.dst (.slice D m cap)) w')
    (hs : AllReadyH Tryz.prog md ops Q S fuel listed a w rs) : AllReadyH Tryz.prog md ops Q S fuel listed a w (i :: rs) := by
  refine AllReadyH.cons ho (fun K hK => ?_) hs
  have hw : Region.wanted o (yielded ops a.tmps) = true := by simp [Region.wanted, hg]
  rw [if_pos hw]
  obtain ⟨D, cap, w', hr, h1, h2⟩ := run_app w B v l A g o.type hown hA hgb hn hB
  have H := h D _ cap w' (Lib.hid rfl) h1 ((Below.refl B w).grown h2 hB (fun k hk => (hown.row.lt k hk).1)) h2
  unfold Oper.wp execOp
  simp only [hop, resolve, invoke, builtin, Sem.run_bind, Sem.run_pure, Result.andThen_ok, List.map_toArray, List.map_cons, List.map_nil, hs', hx, hr]
  exact hK.out _ _ H.1 (fun _ => H.2)
/-! Putting an atom where it belongs, round by round. -/
def PutI (s : List Am) (a : Am) (j : Nat) (d : Bool) (out : List Am) : Prop :=
  (d = false ∧ out ++ put (s.drop j) a = put s a) ∨ (d = true ∧ out ++ s.drop j = put s a ∧ ∀ y ∈ s.drop j, y.k ≠ a.k)
theorem put_len : ∀ (s : List Am) (a : Am), (put s a).length ≤ s.length + 1
  | [], _ => Nat.le_refl _
  | x :: s, a => by
    have := put_len s a
    unfold put
    split
    · simp
    · split
      · simp
      · simp only [List.length_cons]; omega
theorem PutI.len {s : List Am} {a : Am} {j : Nat} {d : Bool} {out : List Am} (h : PutI s a j d out) : out.length ≤ s.length + 1 := by
  have := put_len s a
  rcases h with ⟨_, h⟩ | ⟨_, h, _⟩
  · rw [← h, List.length_append] at this; omega
  · rw [← h, List.length_append] at this; omega
theorem PutI.start (s : List Am) (a : Am) : PutI s a 0 false [] := .inl ⟨rfl, rfl⟩
theorem St.drop {s : List Am} (h : St s) (j : Nat) : St (s.drop j) := ⟨h.ok.sub (fun _ ha => List.mem_of_mem_drop ha), fun a ha => h.rt a (List.mem_of_mem_drop ha), h.so.sublist (List.drop_sublist _ _)⟩
section
variable {s : List Am} {a x : Am} {j : Nat} {out : List Am}
theorem PutI.eq (h : PutI s a j false out) (hs : St s) (hd : s.drop j = x :: s.drop (j + 1)) (hk : x.k = a.k) : PutI s a (j + 1) true (out ++ [⟨a.k, more x.v a.v⟩]) := by
  rcases h with ⟨_, h⟩ | ⟨e, _⟩
  · refine .inr ⟨rfl, ?_, fun y hy e => ?_⟩
    · rw [← h, hd, put, if_pos hk, List.append_assoc]; rfl
    · have h1 := (hd ▸ hs.drop j : St (x :: s.drop (j + 1))).low y hy
      rw [e, ← hk] at h1; omega
  · cases e
theorem PutI.less (h : PutI s a j false out) (hs : St s) (ha : a.Ok) (hx : x.Ok) (hd : s.drop j = x :: s.drop (j + 1)) (hk : x.k ≠ a.k) (hl : a.k.less x.k = true) : PutI s a (j + 1) true (out ++ [a] ++ [x]) := by
  rcases h with ⟨_, h⟩ | ⟨e, _⟩
  · refine .inr ⟨rfl, ?_, fun y hy e => ?_⟩
    · rw [← h, hd, put, if_neg hk, if_pos hl]; simp
    · have h1 := (hd ▸ hs.drop j : St (x :: s.drop (j + 1))).low y hy
      rw [less_kn ha.k hx.k] at hl
      have := of_decide_eq_true hl
      rw [e] at h1; omega
  · cases e
theorem PutI.more (h : PutI s a j false out) (hd : s.drop j = x :: s.drop (j + 1)) (hk : x.k ≠ a.k) (hl : a.k.less x.k = false) : PutI s a (j + 1) false (out ++ [x]) := by
  rcases h with ⟨_, h⟩ | ⟨e, _⟩
  · refine .inl ⟨rfl, ?_⟩
    rw [← h, hd, put, if_neg hk, if_neg (by rw [hl]; decide)]; simp
  · cases e
theorem PutI.past (h : PutI s a j true out) (hd : s.drop j = x :: s.drop (j + 1)) : x.k ≠ a.k ∧ PutI s a (j + 1) true (out ++ [x]) := by
  rcases h with ⟨e, _⟩ | ⟨_, h, hk⟩
  · cases e
  · rw [hd] at h hk
    exact ⟨hk x (List.mem_cons_self ..), .inr ⟨rfl, by rw [← h]; simp, fun y hy => hk y (List.mem_cons_of_mem _ hy)⟩⟩
theorem PutI.done (h : PutI s a s.length true out) : out = put s a := by
  rcases h with ⟨e, _⟩ | ⟨_, h, _⟩
  · cases e
  · rw [← h, List.drop_length, List.append_nil]
theorem PutI.last (h : PutI s a s.length false out) : out ++ [a] = put s a := by
  rcases h with ⟨_, h⟩ | ⟨e, _⟩
  · rw [← h, List.drop_length]; rfl
  · cases e
end
end Go.Proofs.YtijfbhdbfplghaaGreat
