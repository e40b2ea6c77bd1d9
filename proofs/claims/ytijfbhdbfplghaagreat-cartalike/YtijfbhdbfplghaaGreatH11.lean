/- No program in it: vectors as lists of numbers: joins, meets, comparisons. No program in it: the vector of a state. No program in it: vectors as lists of numbers: joins, meets, comparisons. No program in it: the vector of a state. Tags of rows, no program in it: tags of an item, those that are there, items that are present, what is added and dropped, and the laws of joining them. No program in it: notes of carts: the key of a note, the note of a cart in a state, what is written, and the laws of joining it. Maps from carts, or from items, to rows in memory: what they hold, look-ups, stores, ranges. -/
import Derived.Test.YtijfbhdbfplghaaGreatH01
import Derived.Test.YtijfbhdbfplghaaGreatH02
import Derived.Test.YtijfbhdbfplghaaGreatH10
import Derived.Maps.AppendAt
namespace Go.Proofs.YtijfbhdbfplghaaGreat
def vz : List Int := [0, 0, 0, 0, 0, 0, 0, 0, 0, 0, 0, 0, 0, 0, 0, 0]
structure VOk (l : List Int) : Prop where
  len : l.length = 16
  rg : ∀ x ∈ l, 0 ≤ x ∧ x < 4294967296
end Go.Proofs.YtijfbhdbfplghaaGreat
namespace Go.Proofs.YtijfbhdbfplghaaGreat
theorem getD_at {l : List Int} {i : Nat} (h : i < l.length) : l.getD i 0 = l[i] := by rw [List.getD_eq_getElem?_getD, List.getElem?_eq_getElem h, Option.getD_some]
/-! Bounds. -/
section
variable {a b z : List Int} (ha : a.length = 16) (hb : b.length = 16) (hz : z.length = 16)
include ha hb
include hz
end
end Go.Proofs.YtijfbhdbfplghaaGreat
namespace Go.Proofs.YtijfbhdbfplghaaGreat
end Go.Proofs.YtijfbhdbfplghaaGreat
namespace Go.Proofs.YtijfbhdbfplghaaGreat
/-! Bounds. -/
end Go.Proofs.YtijfbhdbfplghaaGreat
namespace Go.Proofs.YtijfbhdbfplghaaGreat
def pof (c : Int) (m : List Int) : Ky → Vl → Bool := fun k _ => decide (k.c = c) && (k.m == m)
def pin (c : Int) : Ky → Vl → Bool := fun k _ => decide (k.c = c)
def pth (p : Ky → Vl → Bool) : Ky → Vl → Bool := fun k v => decide (v.n = 1) && p k v
def sel (p : Ky → Vl → Bool) (x : Am) : Bool := decide (x.k.s = 1) && p x.k x.v
def pick (p : Ky → Vl → Bool) (s : List Am) : List Ky := (s.filter (sel p)).map (·.k)
theorem pick_snoc (p : Ky → Vl → Bool) (s : List Am) (x : Am) : pick p (s ++ [x]) = if sel p x = true then pick p s ++ [x.k] else pick p s := by
  unfold pick
  rw [List.filter_append, List.map_append]
  split
  · rename_i h; rw [List.filter_cons_of_pos h]; rfl
  · rename_i h; rw [List.filter_cons_of_neg h]; simp
theorem pick_len (p : Ky → Vl → Bool) (s : List Am) : (pick p s).length ≤ s.length := by
  unfold pick; rw [List.length_map]; exact List.length_filter_le ..
theorem pick_ok {p : Ky → Vl → Bool} {s : List Am} (h : OkR s) : ∀ k ∈ pick p s, k.Ok := fun k hk => by
  obtain ⟨x, hx, rfl⟩ := List.mem_map.1 hk
  exact (h x (List.mem_filter.1 hx).1).k
theorem mem_pick {p : Ky → Vl → Bool} {s : List Am} (h : St s) {k : Ky} : k ∈ pick p s ↔ k.s = 1 ∧ ∃ v, fnd s k = some v ∧ p k v = true := by
  unfold pick
  rw [List.mem_map]
  constructor
  · rintro ⟨x, hx, rfl⟩
    obtain ⟨h1, h2⟩ := List.mem_filter.1 hx
    simp only [sel, Bool.and_eq_true, decide_eq_true_eq] at h2
    exact ⟨h2.1, x.v, fnd_of_mem h h1, h2.2⟩
  · rintro ⟨h1, v, h2, h3⟩
    exact ⟨⟨k, v⟩, List.mem_filter.2 ⟨fnd_mem h2, by simp [sel, h1, h3]⟩, rfl⟩
def liveT (s : List Am) (c : Int) (m : List Int) : List Ky := pick (pth (pof c m)) (norm s)
def presT (s : List Am) (c : Int) (m : List Int) : Bool := (norm s).any (sel (pth (pof c m)))
def nubF (out : List (List Int)) (k : Ky) : List (List Int) := if out.contains k.m = true then out else out ++ [k.m]
def nub (l : List Ky) : List (List Int) := l.foldl nubF []
theorem nub_snoc (l : List Ky) (k : Ky) : nub (l ++ [k]) = nubF (nub l) k := List.foldl_append ..
def itemsT (s : List Am) (c : Int) : List (List Int) := nub (pick (pth (pin c)) (norm s))
/-- The reference's way: only the last one is compared. -/
def lastF (out : List (List Int)) (k : Ky) : List (List Int) := if out = [] ∨ out.getD (out.length - 1) [] ≠ k.m then out ++ [k.m] else out
def nubL (l : List Ky) : List (List Int) := l.foldl lastF []
theorem nubL_snoc (l : List Ky) (k : Ky) : nubL (l ++ [k]) = lastF (nubL l) k := List.foldl_append ..
theorem nubF_len (out : List (List Int)) (k : Ky) : (nubF out k).length ≤ out.length + 1 := by unfold nubF; split <;> simp
theorem lastF_len (out : List (List Int)) (k : Ky) : (lastF out k).length ≤ out.length + 1 := by unfold lastF; split <;> simp
theorem nub_len_from : ∀ (l : List Ky) (out : List (List Int)), (l.foldl nubF out).length ≤ out.length + l.length
  | [], _ => by simp
  | k :: l, out => by
    have := nub_len_from l (nubF out k)
    have := nubF_len out k
    simp only [List.foldl_cons, List.length_cons]; omega
theorem nub_len (l : List Ky) : (nub l).length ≤ l.length := by have := nub_len_from l []; simpa [nub] using this
theorem nubL_len_from : ∀ (l : List Ky) (out : List (List Int)), (l.foldl lastF out).length ≤ out.length + l.length
  | [], _ => by simp
  | k :: l, out => by
    have := nubL_len_from l (lastF out k)
    have := lastF_len out k
    simp only [List.foldl_cons, List.length_cons]; omega
theorem nubL_len (l : List Ky) : (nubL l).length ≤ l.length := by have := nubL_len_from l []; simpa [nubL] using this
def NOk (m : List Int) : Prop := m.length = 8 ∧ M.Bytes m
theorem num_eq {a b : List Int} (ha : NOk a) (hb : NOk b) (h : M.num a = M.num b) : a = b := M.num_inj a b ha.2 hb.2 (by rw [ha.1, hb.1]) h
/-- In a state the items of a cart come in the order of their numbers. -/
theorem nub_same : ∀ (l : List Ky) (out : List (List Int)), (∀ k ∈ l, k.Ok) → (∀ o ∈ out, NOk o) → l.Pairwise (fun a b => M.num a.m ≤ M.num b.m) →
    (∀ o ∈ out, ∀ k ∈ l, M.num o ≤ M.num k.m) → (∀ o ∈ out, M.num o ≤ M.num (out.getD (out.length - 1) [])) → l.foldl nubF out = l.foldl lastF out
  | [], _, _, _, _, _, _ => rfl
  | k :: l, out, hl, ho, hp, h1, h2 => by
    have hk := hl k (List.mem_cons_self ..)
    have hko : NOk k.m := ⟨hk.ml, hk.mb⟩
    have e : nubF out k = lastF out k := by
      unfold nubF lastF
      by_cases hc : out.contains k.m = true
      · have hm : k.m ∈ out := by simpa using hc
        have hne : out ≠ [] := fun e => by rw [e] at hm; cases hm
        have hlt : out.length - 1 < out.length := by have := List.length_pos_iff.2 hne; omega
        have hlm : out.getD (out.length - 1) [] ∈ out := by
          simp only [List.getD, List.getElem?_eq_getElem hlt, Option.getD_some]; exact List.getElem_mem _
        have a1 := h2 _ hm
        have a2 := h1 _ hlm k (List.mem_cons_self ..)
        have a3 := num_eq (ho _ hlm) hko (by omega)
        rw [if_pos hc, if_neg (fun h => by rcases h with h | h; exact hne h; exact h a3)]
      · rw [if_neg hc]
        by_cases hne : out = []
        · rw [if_pos (.inl hne)]
        · have hlt : out.length - 1 < out.length := by have := List.length_pos_iff.2 hne; omega
          have hlm : out.getD (out.length - 1) [] ∈ out := by
            simp only [List.getD, List.getElem?_eq_getElem hlt, Option.getD_some]; exact List.getElem_mem _
          rw [if_pos (.inr (fun e => hc (by rw [← e]; simpa using hlm)))]
    rw [List.foldl_cons, List.foldl_cons, e]
    have hp2 := List.pairwise_cons.1 hp
    refine nub_same l _ (fun x hx => hl x (List.mem_cons_of_mem _ hx)) (fun o hm => ?_) hp2.2 (fun o hm x hx => ?_) (fun o hm => ?_)
    · unfold lastF at hm
      split at hm
      · rcases List.mem_append.1 hm with h | h
        · exact ho o h
        · rw [List.mem_singleton.1 h]; exact hko
      · exact ho o hm
    · unfold lastF at hm
      split at hm
      · rcases List.mem_append.1 hm with h | h
        · exact h1 o h x (List.mem_cons_of_mem _ hx)
        · rw [List.mem_singleton.1 h]; exact hp2.1 x hx
      · exact h1 o hm x (List.mem_cons_of_mem _ hx)
    · unfold lastF at hm ⊢
      split at hm
      · rename_i hc
        rw [if_pos hc]
        have e1 : (out ++ [k.m]).getD ((out ++ [k.m]).length - 1) [] = k.m := by simp [List.getD]
        rw [e1]
        rcases List.mem_append.1 hm with h | h
        · exact h1 o h k (List.mem_cons_self ..)
        · rw [List.mem_singleton.1 h]; exact Int.le_refl _
      · rename_i hc
        rw [if_neg hc]
        exact h2 o hm
theorem items_last {s : List Am} (h : OkR s) (c : Int) : itemsT s c = nubL (pick (pth (pin c)) (norm s)) := by
  have hs := norm_st h
  refine nub_same _ [] (pick_ok hs.ok) (fun _ h => (by cases h)) ?_ (fun _ h => (by cases h)) (fun _ h => (by cases h))
  have hf : ((norm s).filter (sel (pth (pin c)))).Pairwise (fun a b => M.num a.k.m ≤ M.num b.k.m) := by
    refine List.Pairwise.imp_of_mem ?_ (List.Pairwise.filter _ hs.so)
    intro a b ha hb hlt
    obtain ⟨a1, a2⟩ := List.mem_filter.1 ha
    obtain ⟨b1, b2⟩ := List.mem_filter.1 hb
    simp only [sel, pth, pin, Bool.and_eq_true, decide_eq_true_eq] at a2 b2
    have r1 := (hs.ok a a1).k.w1r
    have r2 := (hs.ok a a1).k.w2r
    have r3 := (hs.ok b b1).k.w1r
    have r4 := (hs.ok b b1).k.w2r
    unfold Ky.kn at hlt
    have e : a.k.w0 = b.k.w0 := by unfold Ky.w0; rw [a2.1, b2.1, a2.2.2, b2.2.2]
    rw [e] at hlt
    show a.k.w1 ≤ b.k.w1
    omega
  exact List.pairwise_map.2 hf
theorem presT_iff {s : List Am} (h : OkR s) {c : Int} {m : List Int} : presT s c m = true ↔ ∃ k v, k.s = 1 ∧ k.c = c ∧ k.m = m ∧ gt s k = some v ∧ v.n = 1 := by
  have hs := norm_st h
  unfold presT
  rw [List.any_eq_true]
  constructor
  · rintro ⟨x, hx, h1⟩
    simp only [sel, pth, pof, Bool.and_eq_true, decide_eq_true_eq, beq_iff_eq] at h1
    exact ⟨x.k, x.v, h1.1, h1.2.2.1, h1.2.2.2, by rw [← fnd_norm h, fnd_of_mem hs hx], h1.2.1⟩
  · rintro ⟨k, v, h1, h2, h3, h4, h5⟩
    exact ⟨⟨k, v⟩, fnd_mem (by rw [fnd_norm h]; exact h4), by simp [sel, pth, pof, h1, h2, h3, h5]⟩
theorem live_iff {s : List Am} (h : OkR s) {c : Int} {m : List Int} {k : Ky} : k ∈ liveT s c m ↔ k.s = 1 ∧ k.c = c ∧ k.m = m ∧ ∃ v, gt s k = some v ∧ v.n = 1 := by
  unfold liveT
  rw [mem_pick (norm_st h), fnd_norm h]
  simp only [pth, pof, Bool.and_eq_true, decide_eq_true_eq, beq_iff_eq]
  constructor
  · rintro ⟨h1, v, h2, h3, h4, h5⟩; exact ⟨h1, h4, h5, v, h2, h3⟩
  · rintro ⟨h1, h4, h5, v, h2, h3⟩; exact ⟨h1, v, h2, h3, h4, h5⟩
theorem pres_live {s : List Am} (h : OkR s) (c : Int) (m : List Int) : presT s c m = decide (0 < (liveT s c m).length) := by
  rw [Bool.eq_iff_iff, presT_iff h, decide_eq_true_eq]
  constructor
  · rintro ⟨k, v, h1, h2, h3, h4, h5⟩
    exact List.length_pos_of_mem ((live_iff h).2 ⟨h1, h2, h3, v, h4, h5⟩)
  · intro hp
    obtain ⟨k, hk⟩ := List.exists_mem_of_length_pos hp
    obtain ⟨h1, h2, h3, v, h4, h5⟩ := (live_iff h).1 hk
    exact ⟨k, v, h1, h2, h3, h4, h5⟩
/-! What is dropped. -/
/-- What a row says of the tags of a cart decides which items are present. -/
theorem items_ext {s t : List Am} (h : OkR s) (ht : OkR t) {c : Int} (he : ∀ k, k.s = 1 → k.c = c → gt s k = gt t k) : itemsT s c = itemsT t c := by
  have hs := norm_st h
  have hu := norm_st ht
  have e : (norm s).filter (sel (pth (pin c))) = (norm t).filter (sel (pth (pin c))) := by
    refine st_ext (hs.filter _) (hu.filter _) (fun k => ?_)
    by_cases hk : k.s = 1 ∧ k.c = c
    · have e1 : fnd (norm s) k = fnd (norm t) k := by rw [fnd_norm h, fnd_norm ht]; exact he k hk.1 hk.2
      cases e2 : fnd (norm s) k with
      | none => rw [fnd_out hs (fun v e3 => by rw [e2] at e3; cases e3), fnd_out hu (fun v e3 => by rw [← e1, e2] at e3; cases e3)]
      | some v =>
        have e3 : fnd (norm t) k = some v := e1 ▸ e2
        by_cases hn : v.n = 1
        · have hp : sel (pth (pin c)) ⟨k, v⟩ = true := by simp [sel, pth, pin, hk.1, hk.2, hn]
          rw [fnd_yes hs e2 hp, fnd_yes hu e3 hp]
        · have hp : sel (pth (pin c)) ⟨k, v⟩ = false := by simp [sel, pth, hn]
          rw [fnd_out hs (fun u e4 => by rw [e2] at e4; cases e4; exact hp), fnd_out hu (fun u e4 => by rw [e3] at e4; cases e4; exact hp)]
    · have hp : ∀ v, sel (pth (pin c)) ⟨k, v⟩ = false := fun v => by
        cases e4 : sel (pth (pin c)) ⟨k, v⟩ with
        | false => rfl
        | true =>
          simp only [sel, pth, pin, Bool.and_eq_true, decide_eq_true_eq] at e4
          exact absurd ⟨e4.1, e4.2.2⟩ hk
      rw [fnd_out hs (fun v _ => hp v), fnd_out hu (fun v _ => hp v)]
  unfold itemsT pick
  rw [e]
/-! What is added. -/
end Go.Proofs.YtijfbhdbfplghaaGreat
namespace Go.Proofs.YtijfbhdbfplghaaGreat
def noteK (c : Int) : Ky := ⟨4, c, M.zero8, 0, 0⟩
theorem noteK_ok {c : Int} (hc : 0 ≤ c ∧ c < 65536) : (noteK c).Ok :=
  ⟨rfl, zero8_bytes, (by decide : (0 : Int) ≤ 4), (by decide : (4 : Int) < 256), hc.1, hc.2, (by decide : (0 : Int) ≤ 0), (by decide : (0 : Int) < 256), (by decide : (0 : Int) ≤ 0), (by decide : (0 : Int) < 4294967296)⟩
theorem right_note {k : Ky} (h : k.right = true) : k.s = 4 ↔ k = noteK k.c := by
  constructor
  · intro h4
    unfold Ky.right at h
    rw [if_neg (by omega), if_neg (by omega), if_pos h4] at h
    exact of_decide_eq_true h
  · intro e; rw [e]; rfl
theorem am_right_k {a : Am} (h : a.right = true) : a.k.right = true := by
  unfold Am.right at h
  exact (Bool.and_eq_true _ _ ▸ h).1
theorem am_right_v {a : Am} (h : a.right = true) : valB a.k.s a.v = true := by
  unfold Am.right at h
  exact (Bool.and_eq_true _ _ ▸ h).2
/-- The note of a cart: its value, and what is read out of it. -/
def noteV (s : List Am) (c : Int) : Vl := (gt s (noteK c)).getD vzero
def vnum (v : Vl) : Int := v.n / 256 % 4294967296
def vrep (v : Vl) : Int := v.n % 256
theorem noteV_ok {s : List Am} (h : OkR s) (c : Int) : (noteV s c).Ok := getD_ok ((gt_ok h).o _)
/-- The carts that have one. -/
def notes (s : List Am) : List Int := ((norm s).filter fun x => decide (x.k.s = 4)).map (·.k.c)
section
variable {s : List Am} (h : OkR s) {c : Int} (hc : 0 ≤ c ∧ c < 65536)
include h hc
end
end Go.Proofs.YtijfbhdbfplghaaGreat
namespace Go.Proofs.YtijfbhdbfplghaaGreat
open Go.RowKit Go.Maps
/-- A kind of keys of maps whose elements are rows of atoms. -/
structure MKd (K : Type) where
  tk : TypeId
  mt : TypeId
  kv : K → Value
  ok : K → Prop
  keyed : Keyed Tryz.prog tk
  lit : ∀ k, ok k → ∃ l, keyOf Tryz.prog tk (kv k) = some l
  inj : ∀ a b, ok a → ok b → kv a = kv b → a = b
  under : Tryz.prog.underlying mt = some (.map tk 22)
section
variable {K : Type} [Inhabited (MKd K)]
abbrev MK.tk (K : Type) [Inhabited (MKd K)] : TypeId := (default : MKd K).tk
abbrev MK.mt (K : Type) [Inhabited (MKd K)] : TypeId := (default : MKd K).mt
abbrev MK.kv (k : K) : Value := (default : MKd K).kv k
abbrev MK.ok (k : K) : Prop := (default : MKd K).ok k
theorem MK.keyed : Keyed Tryz.prog (MK.tk K) := (default : MKd K).keyed
theorem MK.lit (k : K) (h : MK.ok k) : ∃ l, keyOf Tryz.prog (MK.tk K) (MK.kv k) = some l := (default : MKd K).lit k h
theorem MK.inj (a b : K) (ha : MK.ok a) (hb : MK.ok b) (h : MK.kv a = MK.kv b) : a = b := (default : MKd K).inj a b ha hb h
theorem MK.under : Tryz.prog.underlying (MK.mt K) = some (.map (MK.tk K) 22) := (default : MKd K).under
end
theorem zeroRow (w : World) : (zeroValue 22).run Tryz.prog w = .ok (.slice none 0 0) w := by kernel_rfl
section
variable {K : Type} [Inhabited (MKd K)]
def noneG : K → Option Value := fun _ => none
def updG [DecidableEq K] (f : K → Option Value) (k : K) (v : Value) : K → Option Value := fun x => if x = k then some v else f x
def OkG (f : K → Option Value) : Prop := ∀ k v, f k = some v → MK.ok k
theorem okG_none : OkG (K := K) noneG := fun _ _ h => by cases h
theorem OkG.upd [DecidableEq K] {f : K → Option Value} (h : OkG f) {k : K} (hk : MK.ok k) (v : Value) : OkG (updG f k v) := fun x u e => by
  unfold updG at e
  split at e
  · rename_i e2; rw [e2]; exact hk
  · exact h x u e
theorem key_sameG {a b : K} (ha : MK.ok a) (hb : MK.ok b) {l : Lit} (h1 : keyOf Tryz.prog (MK.tk K) (MK.kv a) = some l) (h2 : keyOf Tryz.prog (MK.tk K) (MK.kv b) = some l) : a = b := MK.inj a b ha hb ((MK.keyed (K := K)).inj h1 h2)
/-! What a map holds. -/
structure RepG (D : DataW Value) (f : K → Option Value) : Prop where
  only : ∀ l, Maps.has D l = true → ∃ k v, f k = some v ∧ keyOf Tryz.prog (MK.tk K) (MK.kv k) = some l
  at_ : ∀ k v l, f k = some v → keyOf Tryz.prog (MK.tk K) (MK.kv k) = some l → Maps.has D l = true ∧ ∀ z, D.atKey l z = .held v
structure MapG (w : World) (b n : Nat) (f : K → Option Value) : Prop where
  ok : OkG f
  own : ∃ D, w.ownsMap Tryz.prog (MK.tk K) heldE b n D ∧ RepG D f
theorem RepG.no {D : DataW Value} {f : K → Option Value} (h : RepG D f) (hf : OkG f) {k : K} (hk : MK.ok k) {l : Lit} (hl : keyOf Tryz.prog (MK.tk K) (MK.kv k) = some l) (hn : f k = none) : Maps.has D l = false := by
  cases e : Maps.has D l with
  | false => rfl
  | true =>
    obtain ⟨k', v', h1, h2⟩ := h.only l e
    rw [key_sameG hk (hf _ _ h1) hl h2] at hn
    rw [hn] at h1; cases h1
theorem RepG.has {D : DataW Value} {f : K → Option Value} (h : RepG D f) (hf : OkG f) {k : K} (hk : MK.ok k) {l : Lit} (hl : keyOf Tryz.prog (MK.tk K) (MK.kv k) = some l) : Maps.has D l = (f k).isSome := by
  cases e : f k with
  | none => exact h.no hf hk hl e
  | some v => exact (h.at_ k v l e hl).1
theorem mapG_made (w : World) : MapG (w.alloc (.map #[] 0)) w.heap.size 0 (noneG (K := K)) :=
  ⟨okG_none, .map [], World.ownsMap_made w Tryz.prog (MK.tk K) heldE, fun _ h => (by cases h), fun _ _ _ h => (by cases h)⟩
theorem MapG.lt {w : World} {b n : Nat} {f : K → Option Value} (h : MapG w b n f) : b < w.heap.size := by obtain ⟨D, h1, _⟩ := h.own; exact h1.lt
theorem MapG.kept {w w' : World} {b n : Nat} {f : K → Option Value} {row : Option Nat} (h : MapG w b n f) (hg : w.grownBy w' row) (hne : some b ≠ row) : MapG w' b n f := by
  obtain ⟨D, h1, h2⟩ := h.own; exact ⟨h.ok, D, h1.kept hg hne, h2⟩
theorem MapG.below {w w' : World} {b n : Nat} {f : K → Option Value} (h : MapG w b n f) (hb : Below w.heap.size w w') : MapG w' b n f := h.kept (grown_of hb) (by simp)
theorem MapG.upto {w w' : World} {B b n : Nat} {f : K → Option Value} (h : MapG w b n f) (hb : Below B w w') (hB : b < B) : MapG w' b n f := by
  obtain ⟨D, ⟨es, clock, e, r⟩, h2⟩ := h.own
  exact ⟨h.ok, D, ⟨es, clock, (hb.block b hB).trans e, r⟩, h2⟩
theorem MapG.only {w w' : World} {g b n : Nat} {f : K → Option Value} (h : MapG w b n f) (ho : Only g w w') (hg : b ≠ g) : MapG w' b n f :=
  h.kept (row := some g) ⟨ho.os, ho.tape, ho.output, ho.size, fun k hk hn => ho.block k hk (fun e => hn (by rw [e]))⟩ (fun e => hg (Option.some.inj e))
theorem MapG.mono {w : World} {b n n' : Nat} {f : K → Option Value} (h : MapG w b n f) (hn : n ≤ n') : MapG w b n' f := by
  obtain ⟨D, h1, h2⟩ := h.own; exact ⟨h.ok, D, h1.mono hn, h2⟩
theorem run_lookupG {w : World} {b n : Nat} {f : K → Option Value} (h : MapG w b n f) {k : K} (hk : MK.ok k) : (Instr.lookup (MK.mt K) (.map (some b)) (MK.kv k) false).run Tryz.prog w = .ok ((f k).getD (.slice none 0 0)) w := by
  obtain ⟨D, h1, h2⟩ := h.own
  obtain ⟨l, hl⟩ := MK.lit k hk
  obtain ⟨v, ps, hr, hv⟩ := h1.lookup (MK.keyed (K := K)) MK.under (zeroRow w) (zd := .held (Value.slice none 0 0)) (zp := []) rfl hl
  rw [hr]
  unfold heldE at hv
  simp only [Option.some.injEq, Prod.mk.injEq] at hv
  cases e : f k with
  | none =>
    rw [Maps.atKey_of_not_has (h2.no h.ok hk hl e)] at hv
    have hv := DataW.held.inj hv.1
    rw [hv]; simp only [Option.getD_none]
  | some u =>
    rw [(h2.at_ k u l e hl).2] at hv
    have hv := DataW.held.inj hv.1
    rw [hv]; simp only [Option.getD_some]
theorem RepG.upd [DecidableEq K] {D : DataW Value} {f : K → Option Value} (h : RepG D f) (hf : OkG f) (hm : IsMap D) {k : K} (hk : MK.ok k) (v : Value) {l : Lit} (hl : keyOf Tryz.prog (MK.tk K) (MK.kv k) = some l) : RepG (D.put l (.held v)) (updG f k v) := by
  constructor
  · intro l' h'
    by_cases e : l' = l
    · subst e; exact ⟨k, v, by simp [updG], hl⟩
    · rw [Maps.has_put_other e] at h'
      obtain ⟨k', v', h1, h2⟩ := h.only l' h'
      refine ⟨k', v', ?_, h2⟩
      unfold updG
      rw [if_neg (fun e2 => by rw [e2, hl] at h2; exact e (Option.some.inj h2).symm)]
      exact h1
  · intro k' v' l' h1 h2
    unfold updG at h1
    split at h1
    · rename_i e2
      cases h1
      rw [e2, hl] at h2
      obtain rfl := Option.some.inj h2
      exact ⟨Maps.has_put_same hm ((MK.keyed (K := K)).key hl) _, fun z => Maps.atKey_put_same hm ((MK.keyed (K := K)).key hl) _ z⟩
    · rename_i e2
      have e : l' ≠ l := fun e => e2 (key_sameG (hf _ _ h1) hk h2 (e ▸ hl))
      rw [Maps.has_put_other e]
      obtain ⟨h3, h4⟩ := h.at_ k' v' l' h1 h2
      exact ⟨h3, fun z => by rw [Maps.atKey_put_other e]; exact h4 z⟩
theorem run_updateG [DecidableEq K] {w : World} {b n : Nat} {f : K → Option Value} (h : MapG w b n f) (hn : n ≤ 5000) {k : K} (hk : MK.ok k) (v : Value) (hf : OkG (updG f k v)) :
    ∃ w', (Instr.mapUpdate (MK.mt K) (.map (some b)) (MK.kv k) v).run Tryz.prog w = .ok () w' ∧ MapG w' b (n + 1) (updG f k v) ∧ w.grownBy w' (some b) := by
  obtain ⟨D, h1, h2⟩ := h.own
  obtain ⟨l, hl⟩ := MK.lit k hk
  obtain ⟨w', hr, h3, h4⟩ := h1.update (MK.keyed (K := K)) MK.under (by unfold maxLen; omega) (val := v) (d := .held v) (ps := []) hl rfl
  exact ⟨w', hr, ⟨hf, _, h3, h2.upd h.ok h1.isMap hk v hl⟩, h4⟩
/-! Ranges. -/
/-- A range over the map f is under way; g: what is still to come. -/
structure RangeG (w : World) (b r n : Nat) (f g : K → Option Value) (cnt : Nat) : Prop where
  ok : OkG f
  sub : ∀ k v, g k = some v → f k = some v
  own : ∃ D left, w.ranges Tryz.prog (MK.tk K) heldE b r n D left cnt ∧ RepG D f ∧ (∀ k l, MK.ok k → keyOf Tryz.prog (MK.tk K) (MK.kv k) = some l → (left l = true ↔ g k ≠ none)) ∧ ∀ l, left l = true → Maps.has D l = true
def delG [DecidableEq K] (g : K → Option Value) (k : K) : K → Option Value := fun x => if x = k then none else g x
theorem RangeG.left_eq {w : World} {b r n : Nat} {f g : K → Option Value} {cnt : Nat} (h : RangeG w b r n f g cnt) : w.rangeLeft b r = cnt := by obtain ⟨D, left, h1, _⟩ := h.own; exact h1.left_eq
theorem RangeG.lt {w : World} {b r n : Nat} {f g : K → Option Value} {cnt : Nat} (h : RangeG w b r n f g cnt) : r < w.heap.size := by obtain ⟨D, left, h1, _⟩ := h.own; exact h1.lt
theorem RangeG.map {w : World} {b r n : Nat} {f g : K → Option Value} {cnt : Nat} (h : RangeG w b r n f g cnt) : MapG w b n f := by obtain ⟨D, left, h1, h2, _⟩ := h.own; exact ⟨h.ok, D, h1.owns, h2⟩
theorem RangeG.kept {w w' : World} {b r n : Nat} {f g : K → Option Value} {cnt : Nat} {row : Option Nat} (h : RangeG w b r n f g cnt) (hg : w.grownBy w' row) (h1 : some b ≠ row) (h2 : some r ≠ row) : RangeG w' b r n f g cnt := by
  obtain ⟨D, left, a1, a2⟩ := h.own; exact ⟨h.ok, h.sub, D, left, a1.kept hg h1 h2, a2⟩
theorem RangeG.below {w w' : World} {b r n : Nat} {f g : K → Option Value} {cnt : Nat} (h : RangeG w b r n f g cnt) (hb : Below w.heap.size w w') : RangeG w' b r n f g cnt := h.kept (grown_of hb) (by simp) (by simp)
theorem RangeG.upto {w w' : World} {B b r n : Nat} {f g : K → Option Value} {cnt : Nat} (h : RangeG w b r n f g cnt) (hb : Below B w w') (hB : b < B) (hr : r < B) : RangeG w' b r n f g cnt := by
  obtain ⟨D, left, ⟨es, clock, since, seen, c0, e1, e2, e3, e4, e5, e6⟩, h2⟩ := h.own
  exact ⟨h.ok, h.sub, D, left, ⟨es, clock, since, seen, c0, (hb.block b hB).trans e1, e2, e3, e4, (hb.block r hr).trans e5, e6⟩, h2⟩
theorem msize_isG {w : World} {b n : Nat} {D : DataW Value} (h : w.ownsMap Tryz.prog (MK.tk K) heldE b n D) : Maps.size D = msize w b ∧ msize w b ≤ n := by
  obtain ⟨es, clock, e1, _, e3, rfl⟩ := h
  unfold msize
  rw [e1]
  exact ⟨by simp [Maps.size, length_sorted], e3⟩
theorem MapG.msize_le {w : World} {b n : Nat} {f : K → Option Value} (h : MapG w b n f) : msize w b ≤ n := by
  obtain ⟨D, h1, h2⟩ := h.own
  exact (msize_isG h1).2
theorem run_rangeG {w : World} {b n : Nat} {f : K → Option Value} (h : MapG w b n f) : ∃ w' cnt, (Instr.range (MK.mt K) (.map (some b))).run Tryz.prog w = .ok (.pointer (some ⟨w.heap.size, 0, none⟩)) w' ∧ RangeG w' b w.heap.size n f f cnt ∧ Below w.heap.size w w' ∧ cnt = msize w b := by
  obtain ⟨D, h1, h2⟩ := h.own
  obtain ⟨w', hr, h3, h4, _⟩ := h1.range (MK.keyed (K := K)) MK.under
  refine ⟨w', _, hr, ⟨h.ok, fun _ _ e => e, D, _, h3, h2, fun k l hk hl => ?_, fun _ e => e⟩, ⟨h4.os, h4.tape, h4.output, h4.size, fun k hk => h4.block k hk (by simp)⟩, (msize_isG h1).1⟩
  rw [h2.has h.ok hk hl]
  cases f k <;> simp
theorem run_nextG [DecidableEq K] {w : World} {b r n : Nat} {f g : K → Option Value} {cnt : Nat} (h : RangeG w b r n f g cnt) (ty : TypeId) :
    ((∀ k, g k = none) ∧ (Instr.next (.pointer (some ⟨r, 0, none⟩)) false ty).run Tryz.prog w = .ok (.tuple #[.bool false]) w) ∨
    ∃ k v w' cnt', g k = some v ∧ (Instr.next (.pointer (some ⟨r, 0, none⟩)) false ty).run Tryz.prog w = .ok (.tuple #[.bool true, MK.kv k, v]) w' ∧ RangeG w' b r n f (delG g k) cnt' ∧ cnt' < cnt ∧ w.grownBy w' (some r) ∧ w'.heap.size = w.heap.size ∧ (Instr.entry (.pointer (some ⟨r, 0, none⟩))).run Tryz.prog w' = .ok (.tuple #[MK.kv k, v]) w' := by
  obtain ⟨D, left, h1, h2, h3, h4⟩ := h.own
  rcases h1.next (MK.keyed (K := K)) ty with ⟨_, hl, hrun⟩ | ⟨key, v, l, y, w', cnt', hkey, hlk, hv, hat, hrun, hrg, hlt, hgr, hsz, hen⟩
  · refine .inl ⟨fun k => ?_, hrun⟩
    cases e : g k with
    | none => rfl
    | some u =>
      have hk := h.ok _ _ (h.sub k u e)
      obtain ⟨l, hl'⟩ := MK.lit k hk
      have := (h3 k l hk hl').2 (by rw [e]; simp)
      rw [hl] at this; cases this
  · right
    obtain ⟨k, u, e1, e2⟩ := h2.only l (h4 l hlk)
    have hk := h.ok _ _ e1
    obtain rfl := (MK.keyed (K := K)).inj hkey e2
    have e3 := (h2.at_ k u l e1 e2).2 .nil
    rw [hat] at e3
    unfold heldE at hv
    have e4 : y.1 = .held v := by rw [← Option.some.inj hv]
    rw [e4] at e3
    have e3 := DataW.held.inj e3
    subst e3
    have hg : g k = some v := by
      have := (h3 k l hk e2).1 hlk
      cases e : g k with
      | none => exact absurd e this
      | some z => rw [h.sub k z e] at e1; exact e1
    refine ⟨k, v, w', cnt', hg, hrun, ⟨h.ok, fun x z e => ?_, D, _, hrg, h2, fun x l' hx hl' => ?_, fun l' e => ?_⟩, hlt, hgr, hsz, hen⟩
    · unfold delG at e
      split at e
      · cases e
      · exact h.sub x z e
    · have hs : l'.sameKey l = decide (x = k) := by
        by_cases e : x = k
        · subst e
          rw [hl'] at e2
          obtain rfl := Option.some.inj e2
          rw [WideAt.sameKey_self ((MK.keyed (K := K)).key hl')]; simp
        · rw [Maps.sameKey_ne (fun e' => e (key_sameG hx hk hl' (by rw [e']; exact e2)))]; simp [e]
      show (left l' && !l'.sameKey l) = true ↔ _
      rw [hs]
      unfold delG
      by_cases e : x = k
      · simp [e]
      · simp only [e, decide_false, Bool.not_false, Bool.and_true, if_false]
        exact h3 x l' hx hl'
    · have e' : (left l' && !l'.sameKey l) = true := e
      simp only [Bool.and_eq_true] at e'
      exact h4 l' e'.1
theorem wpList_rangeG {ops : Array Oper} {rest : List Oper} {op : Oper} {a : Act} {w : World} {Q : Exit → Act → World → Prop} (hgd : op.guard = none) (m : Operand) (ho : op.op = .range (MK.mt K) m) (b n : Nat) (f : K → Option Value) (hm : a.eval m = .map (some b)) (h : MapG w b n f)
    (hk : ∀ r w' cnt, Hid (r = w.heap.size) → Hid (RangeG w' b r n f f cnt) → Hid (cnt = msize w b) → Hid (Below w.heap.size w w') → wpList Tryz.prog ops Q rest (a.put op.dst (.pointer (some ⟨r, 0, none⟩))) w') : wpList Tryz.prog ops Q (op :: rest) a w := by
  refine wpList_plain hgd fun K hK => ?_
  obtain ⟨w', cnt, hr, h1, h2, h3⟩ := run_rangeG h
  unfold Oper.wp
  simp [execOp, ho, hm, hr, Result.andThen]
  exact hK _ _ (hk _ w' cnt (Lib.hid rfl) (Lib.hid h1) (Lib.hid h3) (Lib.hid h2))
theorem wpList_nextG [DecidableEq K] {ops : Array Oper} {rest : List Oper} {op : Oper} {a : Act} {w : World} {Q : Exit → Act → World → Prop} (hgd : op.guard = none) (it : Operand) (ho : op.op = .next it false) (b r n : Nat) (f g : K → Option Value) (cnt : Nat) (hit : a.eval it = .pointer (some ⟨r, 0, none⟩)) (h : RangeG w b r n f g cnt)
    (hDone : Hid (∀ k, g k = none) → wpList Tryz.prog ops Q rest (a.put op.dst (.tuple #[.bool false])) w)
    (hMore : ∀ k v w' cnt', Hid (g k = some v) → Hid (RangeG w' b r n f (delG g k) cnt') → Hid (cnt' < cnt) → Hid (Only r w w') → Hid (w'.heap.size = w.heap.size) → (Instr.entry (.pointer (some ⟨r, 0, none⟩))).run Tryz.prog w' = .ok (.tuple #[MK.kv k, v]) w' →
      wpList Tryz.prog ops Q rest (a.put op.dst (.tuple #[.bool true, MK.kv k, v])) w') : wpList Tryz.prog ops Q (op :: rest) a w := by
  refine wpList_plain hgd fun K hK => ?_
  unfold Oper.wp
  rcases run_nextG h op.type with ⟨h0, hr⟩ | ⟨k, v, w', cnt', hg, hr, h1, h2, h3, h4, h5⟩
  · simp [execOp, ho, hit, hr, Result.andThen]
    exact hK _ _ (hDone (Lib.hid h0))
  · simp [execOp, ho, hit, hr, Result.andThen]
    exact hK _ _ (hMore k v w' cnt' (Lib.hid hg) (Lib.hid h1) (Lib.hid h2) (Lib.hid ⟨h3.os, h3.tape, h3.output, h3.size, fun j hj hn => h3.block j hj (fun e => hn (Option.some.inj e))⟩) (Lib.hid h4) h5)
end
end Go.Proofs.YtijfbhdbfplghaaGreat
