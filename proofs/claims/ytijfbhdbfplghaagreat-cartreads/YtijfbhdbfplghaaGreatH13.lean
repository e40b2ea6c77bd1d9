/- A map of groups: for each key the call's own row of the atoms that have it; how a group grows; what lies there afterwards. -/
import Derived.Test.YtijfbhdbfplghaaGreatH11
import Derived.Test.YtijfbhdbfplghaaGreatH12
namespace Go.Proofs.YtijfbhdbfplghaaGreat
open Go.RowKit Go.Maps
section
variable {K : Type} [Inhabited (MKd K)]
theorem row_not_map {w : World} {B b n : Nat} {v : Value} {l : List Am} {f : K → Option Value} (h : OwnR w B v l) (hm : MapG w b n f) : v.ownBlock = none ∨ v.ownBlock ≠ some b := by
  obtain ⟨D, ⟨es, c, e, _⟩, _⟩ := hm.own
  rcases h.row.2 with ⟨rfl, _⟩ | ⟨g, cap, cur, rfl, _, hg, _⟩
  · exact .inl rfl
  · right
    intro e2
    have : g = b := by simpa [Value.ownBlock] using e2
    subst this
    rw [hg] at e; cases e
end
section
variable {K : Type} [DecidableEq K]
def onK (ky : Am → K) (k : K) (s : List Am) : List Am := s.filter fun x => decide (ky x = k)
theorem onK_snoc (ky : Am → K) (k : K) (s : List Am) (x : Am) : onK ky k (s ++ [x]) = if ky x = k then onK ky k s ++ [x] else onK ky k s := by
  unfold onK
  rw [List.filter_append]
  by_cases h : ky x = k
  · rw [if_pos h, List.filter_cons_of_pos (by simp [h])]; rfl
  · rw [if_neg h, List.filter_cons_of_neg (by simp [h])]; simp
theorem onK_len (ky : Am → K) (k : K) (s : List Am) : (onK ky k s).length ≤ s.length := List.length_filter_le ..
theorem onK_none {ky : Am → K} {k : K} {s : List Am} (h : ∀ x ∈ s, ky x ≠ k) : onK ky k s = [] := List.filter_eq_nil_iff.2 fun x hx => by simpa using h x hx
/-- What the map f and its rows say of the atoms s, for the keys of which q holds. -/
structure GrpF (w : World) (B : Nat) (f : K → Option Value) (ky : Am → K) (s : List Am) (q : K → Prop) : Prop where
  row : ∀ k v, q k → f k = some v → OwnR w B v (onK ky k s) ∧ ∃ x ∈ s, ky x = k
  no : ∀ k, q k → f k = none → ∀ x ∈ s, ky x ≠ k
  off : ∀ k k' v v' g, q k → q k' → f k = some v → f k' = some v' → v.ownBlock = some g → v'.ownBlock = some g → k = k'
theorem GrpF.kept {w w' : World} {B : Nat} {f : K → Option Value} {ky : Am → K} {s : List Am} {q q' : K → Prop} {row : Option Nat} (h : GrpF w B f ky s q) (hq : ∀ k, q' k → q k) (hg : w.grownBy w' row)
    (hr : ∀ k v, q' k → f k = some v → v.ownBlock = none ∨ v.ownBlock ≠ row) : GrpF w' B f ky s q' :=
  ⟨fun k v hk e => ⟨⟨(h.row k v (hq k hk) e).1.ok, (h.row k v (hq k hk) e).1.row.kept hg (hr k v hk e)⟩, (h.row k v (hq k hk) e).2⟩, fun k hk => h.no k (hq k hk), fun k k' v v' g h1 h2 => h.off k k' v v' g (hq k h1) (hq k' h2)⟩
theorem GrpF.below {w w' : World} {B : Nat} {f : K → Option Value} {ky : Am → K} {s : List Am} {q : K → Prop} (h : GrpF w B f ky s q) (hb : Below w.heap.size w w') : GrpF w' B f ky s q :=
  h.kept (fun _ h => h) (grown_of hb) fun k v hk e => by
    cases e2 : v.ownBlock with
    | none => exact .inl rfl
    | some g => exact .inr (by simp)
end
section
variable {K : Type} [DecidableEq K] [Inhabited (MKd K)]
/-- The map in block b holds, for each key that an atom of s has, a row of the call's own with the atoms of s that have it. -/
structure Grps (w : World) (B b n : Nat) (ky : Am → K) (s : List Am) : Prop where
  lo : B ≤ b
  ex : ∃ f, MapG w b n f ∧ GrpF w B f ky s fun _ => True
theorem Grps.made (w : World) (B : Nat) (ky : Am → K) (hB : B ≤ w.heap.size) : Grps (w.alloc (.map #[] 0)) B w.heap.size 0 ky [] :=
  ⟨hB, noneG, mapG_made w, fun _ _ _ h => (by cases h), fun _ _ _ _ h => (by cases h), fun _ _ _ _ _ _ _ h => (by cases h)⟩
theorem Grps.lt {w : World} {B b n : Nat} {ky : Am → K} {s : List Am} (h : Grps w B b n ky s) : b < w.heap.size := by obtain ⟨f, h1, _⟩ := h.ex; exact h1.lt
theorem Grps.below {w w' : World} {B b n : Nat} {ky : Am → K} {s : List Am} (h : Grps w B b n ky s) (hb : Below w.heap.size w w') : Grps w' B b n ky s := by
  obtain ⟨f, h1, h2⟩ := h.ex
  exact ⟨h.lo, f, h1.below hb, h2.below hb⟩
theorem Grps.mono {w : World} {B b n n' : Nat} {ky : Am → K} {s : List Am} (h : Grps w B b n ky s) (hn : n ≤ n') : Grps w B b n' ky s := by
  obtain ⟨f, h1, h2⟩ := h.ex
  exact ⟨h.lo, f, h1.mono hn, h2⟩
/-- What the look-up at k handed over: the row of k, and all that is needed to store its successor. -/
structure GotG (w : World) (B b n : Nat) (ky : Am → K) (s : List Am) (k : K) (v : Value) : Prop where
  lo : B ≤ b
  own : OwnR w B v (onK ky k s)
  ex : ∃ f, MapG w b n f ∧ GrpF w B f ky s (fun x => x ≠ k) ∧ ∀ k' u, k' ≠ k → f k' = some u → v.ownBlock = none ∨ u.ownBlock = none ∨ u.ownBlock ≠ v.ownBlock
theorem GotG.below {w w' : World} {B b n : Nat} {ky : Am → K} {s : List Am} {k : K} {v : Value} (h : GotG w B b n ky s k v) (hb : Below w.heap.size w w') : GotG w' B b n ky s k v := by
  obtain ⟨f, h1, h2, h3⟩ := h.ex
  exact ⟨h.lo, h.own.below hb, f, h1.below hb, h2.below hb, h3⟩
/-- .. and all that is needed to store v at k. -/
structure PutG (w : World) (B b n : Nat) (ky : Am → K) (s : List Am) (k : K) (v : Value) (l : List Am) : Prop where
  lo : B ≤ b
  own : OwnR w B v l
  ex : ∃ f, MapG w b n f ∧ GrpF w B f ky s (fun x => x ≠ k) ∧ ∀ k' u, k' ≠ k → f k' = some u → v.ownBlock = none ∨ u.ownBlock = none ∨ u.ownBlock ≠ v.ownBlock
theorem PutG.below {w w' : World} {B b n : Nat} {ky : Am → K} {s : List Am} {k : K} {v : Value} {l : List Am} (h : PutG w B b n ky s k v l) (hb : Below w.heap.size w w') : PutG w' B b n ky s k v l := by
  obtain ⟨f, h1, h2, h3⟩ := h.ex
  exact ⟨h.lo, h.own.below hb, f, h1.below hb, h2.below hb, h3⟩
theorem Grps.look {w : World} {B b n : Nat} {ky : Am → K} {s : List Am} (h : Grps w B b n ky s) {k : K} (hk : MK.ok k) : ∃ v, (Instr.lookup (MK.mt K) (.map (some b)) (MK.kv k) false).run Tryz.prog w = .ok v w ∧ GotG w B b n ky s k v := by
  obtain ⟨f, h1, h2⟩ := h.ex
  refine ⟨_, run_lookupG h1 hk, h.lo, ?_, f, h1, h2.kept (fun _ _ => trivial) (grown_of (Below.refl _ _)) (fun k v hk e => ?_), ?_⟩
  · cases e : f k with
    | none => rw [onK_none (h2.no k trivial e)]; exact ownR_nil w B
    | some v => exact (h2.row k v trivial e).1
  · cases e2 : v.ownBlock with
    | none => exact .inl rfl
    | some g => exact .inr (by simp)
  · intro k' u hk' e
    cases e1 : f k with
    | none => exact .inl rfl
    | some v =>
      cases e2 : u.ownBlock with
      | none => exact .inr (.inl rfl)
      | some g => exact .inr (.inr fun e3 => hk' (h2.off k' k u v g trivial trivial e e1 e2 e3.symm))
theorem GotG.app {w w' : World} {B b n : Nat} {ky : Am → K} {s : List Am} {k : K} {v v' : Value} {l : List Am} (h : GotG w B b n ky s k v) (ho : OwnR w' B v' l) (hg : w.grownBy w' v.ownBlock) (hv : v'.ownBlock = v.ownBlock ∨ v'.ownBlock = some w.heap.size) : PutG w' B b n ky s k v' l := by
  obtain ⟨f, h1, h2, h3⟩ := h.ex
  have hmv : some b ≠ v.ownBlock := fun e => by
    rcases row_not_map h.own h1 with e2 | e2
    · rw [e2] at e; cases e
    · exact e2 e.symm
  refine ⟨h.lo, ho, f, h1.kept hg hmv, h2.kept (fun _ h => h) hg fun k' u hk' e => ?_, fun k' u hk' e => ?_⟩
  · cases e2 : u.ownBlock with
    | none => exact .inl rfl
    | some g =>
      right
      rcases h3 k' u hk' e with e3 | e3 | e3
      · rw [e3]; simp
      · rw [e2] at e3; cases e3
      · rw [← e2]; exact e3
  · cases e2 : u.ownBlock with
    | none => exact .inr (.inl rfl)
    | some g =>
      have hlt := ((h2.row k' u hk' e).1.row.lt g e2).2
      rcases hv with e3 | e3
      · rcases h3 k' u hk' e with e4 | e4 | e4
        · exact .inl (e3.trans e4)
        · rw [e2] at e4; cases e4
        · exact .inr (.inr (by rw [e3, ← e2]; exact e4))
      · exact .inr (.inr (by rw [e3]; intro e5; have := Option.some.inj e5; omega))
theorem PutG.put {w : World} {B b n : Nat} {ky : Am → K} {s : List Am} {k : K} {v : Value} {x : Am} (h : PutG w B b n ky s k v (onK ky k s ++ [x])) (hx : ky x = k) (hk : MK.ok k) (hn : n ≤ 5000) :
    ∃ w', (Instr.mapUpdate (MK.mt K) (.map (some b)) (MK.kv k) v).run Tryz.prog w = .ok () w' ∧ Grps w' B b (n + 1) ky (s ++ [x]) ∧ w.grownBy w' (some b) := by
  obtain ⟨f, h1, h2, h3⟩ := h.ex
  obtain ⟨w', hr, h4, h5⟩ := run_updateG h1 hn hk v (h1.ok.upd hk v)
  have hoth : ∀ k', k' ≠ k → onK ky k' (s ++ [x]) = onK ky k' s := fun k' hk' => by rw [onK_snoc, if_neg (fun e => hk' (by rw [← e, hx]))]
  have hupd : ∀ k' u, k' ≠ k → updG f k v k' = some u → f k' = some u := fun k' u hk' e => by unfold updG at e; rwa [if_neg hk'] at e
  have hat : ∀ u, updG f k v k = some u → u = v := fun u e => by unfold updG at e; rw [if_pos rfl] at e; exact (Option.some.inj e).symm
  have hown : OwnR w' B v (onK ky k (s ++ [x])) := by
    rw [onK_snoc, if_pos hx]
    exact ⟨h.own.ok, h.own.row.kept h5 (row_not_map h.own h1)⟩
  refine ⟨w', hr, ⟨h.lo, _, h4, fun k' u _ e => ?_, fun k' _ e y hy => ?_, fun k' k'' u u' g _ _ e e' g1 g2 => ?_⟩, h5⟩
  · by_cases ek : k' = k
    · subst ek
      rw [hat u e]
      exact ⟨hown, x, by simp, hx⟩
    · obtain ⟨o, y, hy, ey⟩ := h2.row k' u ek (hupd k' u ek e)
      rw [hoth k' ek]
      exact ⟨⟨o.ok, o.row.kept h5 (row_not_map o h1)⟩, y, by simp [hy], ey⟩
  · by_cases ek : k' = k
    · subst ek
      simp [updG] at e
    · have e2 : f k' = none := by unfold updG at e; rwa [if_neg ek] at e
      rcases List.mem_append.1 hy with hy | hy
      · exact h2.no k' ek e2 y hy
      · rw [List.mem_singleton.1 hy, hx]; exact fun e => ek e.symm
  · by_cases ek : k' = k
    · subst ek
      rw [hat u e] at g1
      by_cases ek2 : k'' = k'
      · exact ek2.symm
      · exfalso
        rcases h3 k'' u' ek2 (hupd k'' u' ek2 e') with e5 | e5 | e5
        · rw [g1] at e5; cases e5
        · rw [g2] at e5; cases e5
        · exact e5 (g2.trans g1.symm)
    · by_cases ek2 : k'' = k
      · subst ek2
        rw [hat u' e'] at g2
        exfalso
        rcases h3 k' u ek (hupd k' u ek e) with e5 | e5 | e5
        · rw [g2] at e5; cases e5
        · rw [g1] at e5; cases e5
        · exact e5 (g1.trans g2.symm)
      · exact h2.off k' k'' u u' g ek ek2 (hupd k' u ek e) (hupd k'' u' ek2 e') g1 g2
/-- An atom is appended, and where the new row lies. -/
theorem run_appM (w : World) (B : Nat) (v : Value) (l : List Am) (A : Am) (g : Nat) (ty : TypeId) (hown : OwnR w B v l) (hA : A.Ok) (hg : Blk w g 58 A.cells) (hn : l.length ≤ 5000) (hB : B ≤ w.heap.size) :
    ∃ D cap w', (Builtin.append_ #[22, 22] ty #[v, .slice (some ⟨g, 0, none⟩) 1 1]).run Tryz.prog w = .ok (.slice D (l.length + 1) cap) w' ∧ OwnR w' B (.slice D (l.length + 1) cap) (l ++ [A]) ∧ w.grownBy w' v.ownBlock ∧
      (Value.ownBlock (.slice D (l.length + 1) cap) = v.ownBlock ∨ Value.ownBlock (.slice D (l.length + 1) cap) = some w.heap.size) := by
  obtain ⟨i0, hi, hz0, hz1, hz2⟩ := info_parts info46z
  obtain ⟨v', w', hr, h1, h2, _, h3⟩ := run_append_own_at (P := Tryz.prog) w B 22 ty 58 i0 (.agg azero.cells.toArray) 21 40 Tryz.underlying22 hi hz0 hz1 hz2 (by rfl) (by decide) v _ _ hown.row ⟨g, 0, none⟩ 1 1 A.cells (by rw [acells_len hA])
    (fun j u hj => by
      have h := hg.range j u hj
      rw [Nat.zero_add] at h
      unfold Addr.add
      split
      · rename_i h0; rw [h0] at h; exact h
      · simpa using h) (all_list (one32 A)) (by unfold maxLen; omega) (by omega) hB
  have own : OwnR w' B v' (l ++ [A]) := ⟨hown.ok.app (okR_nil.cons hA), by rw [acs_app, acs_one, List.length_append, List.length_singleton]; exact h1⟩
  obtain ⟨D, cap, e⟩ := own.shape
  rw [List.length_append, List.length_singleton] at e
  subst e
  exact ⟨D, cap, w', hr, own, h2, h3⟩
/-- What a look-up shows later: the row of a key, as it lies there. -/
theorem Grps.at_ {w : World} {B b n : Nat} {ky : Am → K} {s : List Am} (h : Grps w B b n ky s) {k : K} (hk : MK.ok k) : ∃ v, (Instr.lookup (MK.mt K) (.map (some b)) (MK.kv k) false).run Tryz.prog w = .ok v w ∧ RowAt w v (onK ky k s) := by
  obtain ⟨v, h1, h2⟩ := h.look hk
  exact ⟨v, h1, h2.own.rowAt⟩
end
section
variable {K : Type} [DecidableEq K] [Inhabited (MKd K)] {ops : Array Oper} {rest : List Oper} {op : Oper} {a : Act} {w : World} {Q : Exit → Act → World → Prop}
theorem wpList_makeG (ky : Am → K) (hgd : op.guard = none) (ho : op.op = .makeMap (MK.mt K) none) (B : Nat) (hB : B ≤ w.heap.size)
    (h : ∀ b w', Hid (b = w.heap.size) → Hid (Grps w' B b 0 ky []) → Hid (Below w.heap.size w w') → wpList Tryz.prog ops Q rest (a.put op.dst (.map (some b))) w') : wpList Tryz.prog ops Q (op :: rest) a w := by
  refine wpList_plain hgd fun K' hK => ?_
  have H := h w.heap.size (w.alloc (.map #[] 0)) (Lib.hid rfl) (Lib.hid (Grps.made w B ky hB)) (Lib.hid (new_below w _))
  unfold Oper.wp execOp
  simp [ho, Instr.makeMap, go_sem]
  exact hK _ _ H
end
end Go.Proofs.YtijfbhdbfplghaaGreat
