/- Plain mathematics of layer 1: texts that are cut into pieces. No program stands in it. -/
import Init
namespace Go.Proofs.YtmfofgakenpnaaaDoor.M

def sepAt (sep : Int → Bool) (s : ByteArray) (k : Nat) : Bool := if h : k < s.size then sep (s[k].toNat : Int) else false
/-- After k bytes: where the open piece begins, and the pieces that were kept. -/
def cutSt (sep : Int → Bool) (keep : ByteArray → Bool → Bool) (s : ByteArray) : Nat → Nat × List ByteArray
  | 0 => (0, [])
  | k + 1 => if sepAt sep s k then (k + 1, if keep (s.extract (cutSt sep keep s k).1 k) false then (cutSt sep keep s k).2 ++ [s.extract (cutSt sep keep s k).1 k] else (cutSt sep keep s k).2) else cutSt sep keep s k
def cutAll (sep : Int → Bool) (keep : ByteArray → Bool → Bool) (s : ByteArray) : List ByteArray :=
  if keep (s.extract (cutSt sep keep s s.size).1 s.size) true then (cutSt sep keep s s.size).2 ++ [s.extract (cutSt sep keep s s.size).1 s.size] else (cutSt sep keep s s.size).2

theorem sepAt_lt (sep : Int → Bool) (s : ByteArray) (k : Nat) (h : k < s.size) : sepAt sep s k = sep (s[k].toNat : Int) := by rw [sepAt, dif_pos h]

theorem cut_le (sep : Int → Bool) (keep : ByteArray → Bool → Bool) (s : ByteArray) (k : Nat) : (cutSt sep keep s k).1 ≤ k ∧ (cutSt sep keep s k).2.length ≤ k := by
  induction k with
  | zero => exact ⟨Nat.le_refl _, Nat.le_refl _⟩
  | succ k ih =>
    rw [cutSt]
    split
    · refine ⟨Nat.le_refl _, ?_⟩
      dsimp only
      split
      · rw [List.length_append]; simp; omega
      · omega
    · omega
theorem cut_miss (sep : Int → Bool) (keep : ByteArray → Bool → Bool) (s : ByteArray) (k : Nat) (h : k < s.size) (hs : sep (s[k].toNat : Int) = false) : cutSt sep keep s (k + 1) = cutSt sep keep s k := by
  rw [cutSt, sepAt_lt sep s k h, hs]; rfl
theorem cut_hit (sep : Int → Bool) (keep : ByteArray → Bool → Bool) (s : ByteArray) (k st : Nat) (acc : List ByteArray) (h : k < s.size) (hs : sep (s[k].toNat : Int) = true) (hp : cutSt sep keep s k = (st, acc)) (hk : keep (s.extract st k) false = true) : cutSt sep keep s (k + 1) = (k + 1, acc ++ [s.extract st k]) := by
  rw [cutSt, sepAt_lt sep s k h, hs, hp]; simp [hk]
theorem cut_drop (sep : Int → Bool) (keep : ByteArray → Bool → Bool) (s : ByteArray) (k st : Nat) (acc : List ByteArray) (h : k < s.size) (hs : sep (s[k].toNat : Int) = true) (hp : cutSt sep keep s k = (st, acc)) (hk : keep (s.extract st k) false = false) : cutSt sep keep s (k + 1) = (k + 1, acc) := by
  rw [cutSt, sepAt_lt sep s k h, hs, hp]; simp [hk]
theorem cut_end (sep : Int → Bool) (keep : ByteArray → Bool → Bool) (s : ByteArray) (st : Nat) (acc : List ByteArray) (hp : cutSt sep keep s s.size = (st, acc)) (hk : keep (s.extract st s.size) true = true) : cutAll sep keep s = acc ++ [s.extract st s.size] := by
  rw [cutAll, hp]; simp [hk]
theorem cut_last (sep : Int → Bool) (keep : ByteArray → Bool → Bool) (s : ByteArray) (st : Nat) (acc : List ByteArray) (hp : cutSt sep keep s s.size = (st, acc)) (hk : keep (s.extract st s.size) true = false) : cutAll sep keep s = acc := by
  rw [cutAll, hp]; simp [hk]

def blank (c : Int) : Bool := c == 32 || c == 9
def newline (c : Int) : Bool := c == 10
def filled (p : ByteArray) (_ : Bool) : Bool := decide (0 < p.size)
def isLine (p : ByteArray) (last : Bool) : Bool := decide (0 < p.size) || !last
def wordsOf (s : ByteArray) : List ByteArray := cutAll blank filled s
def linesOf (s : ByteArray) : List ByteArray := cutAll newline isLine s

/-- The words so far, the open one among them. -/
def flushed (s : ByteArray) (k : Nat) : List ByteArray :=
  if (cutSt blank filled s k).1 < k then (cutSt blank filled s k).2 ++ [s.extract (cutSt blank filled s k).1 k] else (cutSt blank filled s k).2
def ready (s : ByteArray) (k : Nat) : Prop := (cutSt blank filled s k).1 = k ∨ sepAt blank s k = true ∨ k = s.size

theorem filled_ext (s : ByteArray) (a k : Nat) (l : Bool) (h : k ≤ s.size) : filled (s.extract a k) l = decide (a < k) := by
  rw [filled, ByteArray.size_extract, Bool.eq_iff_iff, decide_eq_true_iff, decide_eq_true_iff]; omega
theorem fl_zero (s : ByteArray) : flushed s 0 = [] ∧ ready s 0 := ⟨rfl, Or.inl rfl⟩
theorem fl_end (s : ByteArray) : flushed s s.size = wordsOf s := by
  rw [flushed, wordsOf, cutAll, filled_ext s _ _ _ (Nat.le_refl _)]
  by_cases h : (cutSt blank filled s s.size).1 < s.size <;> simp [h]
theorem fl_blank (s : ByteArray) (k : Nat) (h : k < s.size) (hb : blank (s[k].toNat : Int) = true) : flushed s (k + 1) = flushed s k ∧ ready s (k + 1) := by
  have e : cutSt blank filled s (k + 1) = (k + 1, flushed s k) := by
    rw [cutSt, sepAt_lt blank s k h, hb, filled_ext s _ _ _ (Nat.le_of_lt h), flushed]
    by_cases h2 : (cutSt blank filled s k).1 < k <;> simp [h2]
  refine ⟨?_, Or.inl (by rw [e])⟩
  rw [flushed, e]; simp
theorem cut_run (s : ByteArray) (k : Nat) : ∀ m, (∀ i, k ≤ i → i < k + m → sepAt blank s i = false) → cutSt blank filled s (k + m) = cutSt blank filled s k := by
  intro m
  induction m with
  | zero => intro _; rfl
  | succ m ih =>
    intro h
    rw [← Nat.add_assoc, cutSt, h (k + m) (by omega) (by omega)]
    simp only [Bool.false_eq_true, if_false]
    exact ih fun i h1 h2 => h i h1 (by omega)
theorem fl_word (s : ByteArray) (k j : Nat) (hk : k < s.size) (hb : blank (s[k].toNat : Int) = false) (hr : ready s k) (hj : k < j) (h : ∀ i, k ≤ i → i < j → sepAt blank s i = false) : flushed s j = flushed s k ++ [s.extract k j] := by
  have h1 : (cutSt blank filled s k).1 = k := by
    rcases hr with hr | hr | hr
    · exact hr
    · rw [sepAt_lt blank s k hk, hb] at hr; cases hr
    · omega
  have e : cutSt blank filled s j = cutSt blank filled s k := by
    have := cut_run s k (j - k) (fun i a b => h i a (by omega))
    rwa [show k + (j - k) = j by omega] at this
  rw [flushed, e, h1, if_pos hj, flushed, h1, if_neg (by omega)]
theorem fl_len (s : ByteArray) (k : Nat) : (flushed s k).length ≤ k + 1 := by
  have := (cut_le blank filled s k).2
  rw [flushed]; split
  · rw [List.length_append]; simp; omega
  · omega
end Go.Proofs.YtmfofgakenpnaaaDoor.M
