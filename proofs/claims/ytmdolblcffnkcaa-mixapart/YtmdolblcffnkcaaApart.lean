/- What the walk of MixApart needs: the world at its start, words that differ, the bytes with one group changed. -/
import Derived.Test.YtmdolblcffnkcaaSum
import Derived.RegionTactic
import Derived.Laws.AppendOwn
import Derived.Laws.AppendOwnNone
import Derived.OwnWalk
namespace Go.Proofs.Ytmdolblcffnkcaa
open Go.RowKit

abbrev changeV (v : Value) (at_ g0 g1 g2 g3 g4 g5 g6 g7 : Int) : Value := .agg #[v, .int .i64 at_, .int .u8 g0, .int .u8 g1, .int .u8 g2, .int .u8 g3, .int .u8 g4, .int .u8 g5, .int .u8 g6, .int .u8 g7]
section start
variable {w V : World} {x y g0 g1 g2 g3 g4 g5 g6 g7 : Int} {cs : Array Value} {t : TypeId}
abbrev startW (w : World) (x y g0 g1 g2 g3 g4 g5 g6 g7 : Int) (cs : Array Value) (t : TypeId) : World :=
  (((w.alloc (.cells #[.int .u64 x, .int .u64 y] 30)).alloc (.cells cs t)).alloc (.cells #[.int .u8 g0, .int .u8 g1, .int .u8 g2, .int .u8 g3, .int .u8 g4, .int .u8 g5, .int .u8 g6, .int .u8 g7] 31)).drew
theorem start_below (h : V = startW w x y g0 g1 g2 g3 g4 g5 g6 g7 cs t) : Below w.heap.size w V := by
  rw [h]; exact ((((Below.refl _ w).alloc (Nat.le_refl _) _).alloc (by simp) _).alloc (by simp; omega) _).drew
theorem start_pair (h : V = startW w x y g0 g1 g2 g3 g4 g5 g6 g7 cs t) : V.heap[w.heap.size]? = some (.cells #[.int .u64 x, .int .u64 y] 30) := by
  subst h
  have e1 := Below.heap_alloc ((w.alloc (.cells #[.int .u64 x, .int .u64 y] 30)).alloc (.cells cs t)) (.cells #[.int .u8 g0, .int .u8 g1, .int .u8 g2, .int .u8 g3, .int .u8 g4, .int .u8 g5, .int .u8 g6, .int .u8 g7] 31) w.heap.size (by simp; omega)
  have e2 := Below.heap_alloc (w.alloc (.cells #[.int .u64 x, .int .u64 y] 30)) (.cells cs t) w.heap.size (by simp)
  exact (e1.trans e2).trans (World.alloc_heap_new w _)
theorem start_x (h : V = startW w x y g0 g1 g2 g3 g4 g5 g6 g7 cs t) : V.cell? ⟨w.heap.size, 0, none⟩ = some (.int .u64 x) := by simp [World.cell?, start_pair h]
theorem start_y (h : V = startW w x y g0 g1 g2 g3 g4 g5 g6 g7 cs t) : V.cell? ⟨w.heap.size, 1, none⟩ = some (.int .u64 y) := by simp [World.cell?, start_pair h]
theorem start_row (h : V = startW w x y g0 g1 g2 g3 g4 g5 g6 g7 cs t) : V.rowIs (w.heap.size + 1 + 1) 31 8 (fun i => .int .u8 ([g0, g1, g2, g3, g4, g5, g6, g7].getD i 0)) := by
  refine ⟨#[.int .u8 g0, .int .u8 g1, .int .u8 g2, .int .u8 g3, .int .u8 g4, .int .u8 g5, .int .u8 g6, .int .u8 g7], ?_, rfl, fun i hi => ?_⟩
  · rw [h]
    have e := World.alloc_heap_new ((w.alloc (.cells #[.int .u64 x, .int .u64 y] 30)).alloc (.cells cs t)) (.cells #[.int .u8 g0, .int .u8 g1, .int .u8 g2, .int .u8 g3, .int .u8 g4, .int .u8 g5, .int .u8 g6, .int .u8 g7] 31)
    rw [World.size_alloc, World.size_alloc] at e
    exact e
  · match i, hi with
    | 0, _ => rfl
    | 1, _ => rfl
    | 2, _ => rfl
    | 3, _ => rfl
    | 4, _ => rfl
    | 5, _ => rfl
    | 6, _ => rfl
    | 7, _ => rfl
end start
theorem word_tells (seed x y : Int) (hs : U64 seed) (hx : U64 x) (hy : U64 y) : (wordI seed x == wordI seed y) = (x == y) := by
  rw [Bool.eq_iff_iff, beq_iff_eq, beq_iff_eq]
  refine ⟨fun h => ?_, fun h => by rw [h]⟩
  have := M.word_inj (toNat_lt hs) (toNat_lt hx) (toNat_lt hy) (show M.word seed.toNat x.toNat = M.word seed.toNat y.toNat by unfold wordI at h; omega)
  have h1 := hx.1
  have h2 := hy.1
  omega
theorem word_tells2 (seed x y : Int) (hs : U64 seed) (hx : U64 x) (hy : U64 y) : (wordI x seed == wordI y seed) = (x == y) := by
  rw [← word_tells seed x y hs hx hy]
  unfold wordI
  rw [M.word_comm x.toNat, M.word_comm y.toNat]
theorem info5 : (Try.prog.info? 5).map (fun i => (i.zero, i.size, i.bytes)) = some (some (.int .u8 0), 1, 1) := by kernel_rfl
theorem add_at (g off j : Nat) : (⟨g, off, none⟩ : Addr).add j = ⟨g, off + j, none⟩ := by
  unfold Addr.add
  by_cases h : j = 0 <;> simp [h]
theorem owns_below {w w' : World} {B e n : Nat} {v : Value} {xs : List Value} (h : w.ownsRow B e 1 v n xs) (hb : Below w.heap.size w w') : w'.ownsRow B e 1 v n xs :=
  h.kept (row := none) ⟨hb.os, hb.tape, hb.output, hb.size, fun k hk _ => hb.block k hk⟩ (by cases hv : v.ownBlock <;> simp)
theorem app_bytes {ops : Array Oper} {rest : List Oper} {o : Oper} {a : Act} {Q : Exit → Act → World → Prop} (w : World) (hgd : o.guard = none) (s x : Operand)
    (ho : o.op = .call { callee := .builtin .append, args := #[s, x], argTypes := #[26, 26] }) (base : Nat) (v u : Value) (acc l : List Int)
    (hs : a.eval s = v) (hown : w.ownsRow base 5 1 v acc.length (acc.map (Value.int .u8))) (hx : a.eval x = u) (hu : BytesAt w u l) (hn : acc.length + l.length ≤ 1000) (hbase : base ≤ w.heap.size)
    (h : ∀ v' w', w'.ownsRow base 5 1 v' (acc ++ l).length ((acc ++ l).map (Value.int .u8)) → Below base w w' → wpList Try.prog ops Q rest (a.put o.dst v') w') :
    wpList Try.prog ops Q (o :: rest) a w := by
  obtain ⟨i0, hi, hz0, hz1, hz2⟩ := info_parts info5
  obtain ⟨ad, cap, rfl, hcap, _, hc⟩ := hu
  rcases ad with _ | ad
  · have h0 : l = [] := by
      cases l with
      | nil => rfl
      | cons c r => obtain ⟨g, off, ha, _⟩ := hc (by simp); cases ha
    subst h0
    have hc0 := hcap.2 rfl
    subst hc0
    refine wpList_append_own_none hgd s x 26 ho base 5 i0 1 Try.underlying26 hi v _ _ hs hown hx ?_
    exact h v w (by simpa using hown) (Below.refl _ _)
  · refine wpList_append_own _ hgd s x 26 ho base 5 i0 (.int .u8 0) 1 1 Try.underlying26 hi hz0 hz1 hz2 rfl (by decide) v _ _ hs hown ad l.length cap (l.map (Value.int .u8)) hx (by simp) ?_ ?_ ?_ ?_ hbase ?_
    · intro j y hy
      have hj : j < l.length := by
        rcases Nat.lt_or_ge j l.length with h | h
        · exact h
        · rw [List.getElem?_eq_none (by simpa using h)] at hy; cases hy
      obtain ⟨g, off, ha, _, hcell⟩ := hc (by omega)
      injection ha with ha
      subst ha
      rw [add_at, hcell j hj]
      simp [hj] at hy
      rw [← hy]
    · intro y hy
      obtain ⟨c, _, rfl⟩ := List.mem_map.1 hy
      rfl
    · unfold maxLen; omega
    · omega
    · intro v' w' h1 h2 _
      refine h v' w' (by simpa using h1) ?_
      exact (Below.refl base w).grown h2 hbase (fun k hk => (hown.lt k hk).1)
theorem owns_empty (w : World) (base : Nat) (hb : base ≤ w.heap.size) : (w.alloc (.cells #[] 5)).ownsRow base 5 1 (.slice (some ⟨w.heap.size, 0, none⟩) 0 0) ([] : List Int).length (([] : List Int).map (Value.int .u8)) :=
  World.ownsRow_lit w #[] 0 hb (by decide) rfl
theorem own_row {w : World} {base : Nat} {v : Value} {l : List Int} (h : w.ownsRow base 5 1 v ([] ++ l).length (([] ++ l).map (Value.int .u8))) (hl : 0 < l.length) :
    ∃ g cap f, v = .slice (some ⟨g, 0, none⟩) l.length cap ∧ base ≤ g ∧ l.length ≤ cap ∧ w.rowIs g 5 cap f ∧ ∀ i, i < l.length → f i = .int .u8 (l.getD i 0) := by
  rw [List.nil_append] at h
  obtain ⟨_, h2⟩ := h
  rcases h2 with ⟨_, h0⟩ | ⟨g, cap, cur, hv, hg, hh, hc, _, hsz, htk⟩
  · omega
  · refine ⟨g, cap, fun i => cur[i]?.getD undef, hv, hg, hc, ⟨cur, hh, by omega, fun i hi => ?_⟩, fun i hi => ?_⟩
    · have h3 : i < cur.size := by omega
      simp [h3]
    · have e : (cur.toList.take (l.length * 1))[i]? = (l.map (Value.int .u8))[i]? := by rw [htk]
      rw [List.getElem?_take, if_pos (by omega), Array.getElem?_toList, List.getElem?_map, List.getElem?_eq_getElem hi] at e
      show cur[i]?.getD undef = _
      rw [e, List.getD_eq_getElem?_getD, List.getElem?_eq_getElem hi]; rfl
theorem row_on {w w' : World} {b t n : Nat} {f : Nat → Value} (h : w.rowIs b t n f) (hb : Below w.heap.size w w') : w'.rowIs b t n f := by
  obtain ⟨c, h1, h2⟩ := h
  exact ⟨c, (hb.block b (Array.getElem?_eq_some_iff.1 h1).1).trans h1, h2⟩
theorem row_drew {w : World} {b t n : Nat} {f : Nat → Value} (h : w.rowIs b t n f) (k : Nat) : (w.drewN k).rowIs b t n f := h
theorem BytesAt.bytes {w : World} {v : Value} {l : List Int} (h : BytesAt w v l) : M.Bytes l := by obtain ⟨_, _, _, _, hr, _⟩ := h; exact hr
/-- Are the first m bytes of the group those that stand there? -/
def sm (l grp : List Int) (j : Nat) : Nat → Bool
  | 0 => true
  | m + 1 => sm l grp j m && (l.getD (8 * j + m) 0 == grp.getD m 0)
theorem sm_iff (l grp : List Int) (j m : Nat) : sm l grp j m = true ↔ ∀ i, i < m → l.getD (8 * j + i) 0 = grp.getD i 0 := by
  induction m with
  | zero => exact ⟨fun _ i hi => absurd hi (Nat.not_lt_zero i), fun _ => rfl⟩
  | succ m ih =>
    rw [sm, Bool.and_eq_true, ih, beq_iff_eq]
    constructor
    · rintro ⟨h1, h2⟩ i hi
      by_cases e : i = m
      · subst e; exact h2
      · exact h1 i (by omega)
    · exact fun h => ⟨fun i hi => h i (by omega), h m (by omega)⟩
theorem sm_group (l grp : List Int) (j : Nat) (hl : 8 * j + 8 ≤ l.length) (hg : grp.length = 8) : sm l grp j 8 = true ↔ M.group l j = grp := by
  rw [sm_iff]
  have hlen : (M.group l j).length = 8 := by rw [M.group_len]; omega
  constructor
  · intro h
    refine List.ext_getElem (by rw [hlen, hg]) fun i h1 h2 => ?_
    have h3 := h i (by omega)
    rw [List.getD_eq_getElem?_getD, List.getD_eq_getElem?_getD, List.getElem?_eq_getElem (by omega), List.getElem?_eq_getElem h2] at h3
    simp [M.group]
    exact h3
  · intro h i hi
    rw [← h, List.getD_eq_getElem?_getD, List.getD_eq_getElem?_getD]
    unfold M.group
    rw [List.getElem?_take, if_pos hi, List.getElem?_drop]
theorem sum_tells (seed : Int) (l grp : List Int) (j : Nat) (hl : M.Bytes l) (hgb : M.Bytes grp) (hg : grp.length = 8) (hj : 8 * j + 8 ≤ l.length) : (sumI seed l == sumI seed (M.changed l j grp)) = sm l grp j 8 := by
  rw [Bool.eq_iff_iff, beq_iff_eq, sm_group l grp j hj hg, ← M.sum_changed seed.toNat l grp j hl hgb hg hj]
  unfold sumI
  omega
/-- The row, with the first m bytes of the group in it. -/
def mid (f : Nat → Value) (grp : List Int) (j m : Nat) : Nat → Value := fun i => if 8 * j ≤ i ∧ i < 8 * j + m then .int .u8 (grp.getD (i - 8 * j) 0) else f i
theorem mid_zero (f : Nat → Value) (grp : List Int) (j : Nat) : mid f grp j 0 = f := by
  funext i; unfold mid; rw [if_neg (by omega)]
theorem mid_at (f : Nat → Value) (grp : List Int) (j m : Nat) : mid f grp j m (8 * j + m) = f (8 * j + m) := by unfold mid; rw [if_neg (by omega)]
theorem mid_step {V : World} {g cap : Nat} {f : Nat → Value} {grp : List Int} {j m : Nat} {d : Int} (h : V.rowIs g 5 cap (mid f grp j m)) (hd : grp.getD m 0 = d) :
    (V.setCell ⟨g, 8 * j + m, none⟩ (.int .u8 d)).rowIs g 5 cap (mid f grp j (m + 1)) := by
  refine (h.set (8 * j + m) (.int .u8 d)).congr fun i _ => ?_
  unfold mid
  by_cases e : i = 8 * j + m
  · subst e; rw [if_pos rfl, if_pos (by omega), show 8 * j + m - 8 * j = m by omega, hd]
  · rw [if_neg e]
    by_cases hm : 8 * j ≤ i ∧ i < 8 * j + m
    · rw [if_pos hm, if_pos (by omega)]
    · rw [if_neg hm, if_neg (by omega)]
theorem changed_at (l grp : List Int) (j i : Nat) (hg : grp.length = 8) (hj : 8 * j + 8 ≤ l.length) : (M.changed l j grp).getD i 0 = if 8 * j ≤ i ∧ i < 8 * j + 8 then grp.getD (i - 8 * j) 0 else l.getD i 0 := by
  unfold M.changed
  rw [List.getD_eq_getElem?_getD, List.append_assoc]
  by_cases h1 : i < 8 * j
  · rw [if_neg (by omega), List.getElem?_append_left (by simp; omega), List.getElem?_take, if_pos h1, List.getD_eq_getElem?_getD]
  · rw [List.getElem?_append_right (by simp; omega)]
    have e : i - (l.take (8 * j)).length = i - 8 * j := by simp; omega
    rw [e]
    by_cases h2 : i < 8 * j + 8
    · rw [if_pos (by omega), List.getElem?_append_left (by omega), List.getD_eq_getElem?_getD]
    · rw [if_neg (by omega), List.getElem?_append_right (by omega), List.getElem?_drop, List.getD_eq_getElem?_getD]
      rw [show 8 * j + 8 + (i - 8 * j - grp.length) = i by omega]
theorem mid_bytes {V : World} {g cap : Nat} {f : Nat → Value} {l grp : List Int} {j : Nat} (h : V.rowIs g 5 cap (mid f grp j 8)) (hf : ∀ i, i < l.length → f i = .int .u8 (l.getD i 0)) (hc : l.length ≤ cap) (hl : M.Bytes l) (hgb : M.Bytes grp) (hg : grp.length = 8) (hj : 8 * j + 8 ≤ l.length) :
    BytesAt V (.slice (some ⟨g, 0, none⟩) l.length cap) (M.changed l j grp) := by
  have hlen := M.changed_len l grp j hg hj
  refine ⟨_, cap, by rw [hlen], ⟨by rw [hlen]; exact hc, fun h => by cases h⟩, M.changed_bytes j hl hgb, fun _ => ⟨g, 0, rfl, h.lt, fun i hi => ?_⟩⟩
  rw [hlen] at hi
  rw [Nat.zero_add, h.cell (by omega)]
  have e : (M.changed l j grp)[i]'(by rw [hlen]; exact hi) = (M.changed l j grp).getD i 0 := by rw [List.getD_eq_getElem?_getD, List.getElem?_eq_getElem]; rfl
  rw [e, changed_at l grp j i hg hj]
  unfold mid
  by_cases h1 : 8 * j ≤ i ∧ i < 8 * j + 8
  · rw [if_pos h1, if_pos h1]
  · rw [if_neg h1, if_neg h1, hf i hi]
end Go.Proofs.Ytmdolblcffnkcaa
