/- Plain mathematics of layer 4: mixing a number below 2^64, and back; the hashes of words one behind the other. No program stands in it. -/
import Derived.Test.YtmdolblcffnkcaaMath
import Derived.Test.YtmdolblcffnkcaaBytey
namespace Go.Proofs.Ytmdolblcffnkcaa.M

/-- A number changed by itself, moved down. -/
def down (s x : Nat) : Nat := x ^^^ (x / 2 ^ s)
def up (s y : Nat) : Nat := y ^^^ (y / 2 ^ s) ^^^ (y / 2 ^ (2 * s))
theorem div_lt (x k : Nat) (hx : x < 2 ^ 64) : x / 2 ^ k < 2 ^ 64 := Nat.lt_of_le_of_lt (Nat.div_le_self _ _) hx
theorem down_lt (s x : Nat) (hx : x < 2 ^ 64) : down s x < 2 ^ 64 := Nat.xor_lt_two_pow hx (div_lt x s hx)
theorem up_lt (s x : Nat) (hx : x < 2 ^ 64) : up s x < 2 ^ 64 := Nat.xor_lt_two_pow (Nat.xor_lt_two_pow hx (div_lt x _ hx)) (div_lt x _ hx)
theorem down_bit (s x i : Nat) : (down s x).testBit i = (x.testBit i ^^ x.testBit (i + s)) := by
  unfold down; rw [Nat.testBit_xor, Nat.testBit_div_two_pow]
theorem up_bit (s x i : Nat) : (up s x).testBit i = (x.testBit i ^^ x.testBit (i + s) ^^ x.testBit (i + 2 * s)) := by
  unfold up; rw [Nat.testBit_xor, Nat.testBit_xor, Nat.testBit_div_two_pow, Nat.testBit_div_two_pow]
theorem up_down (s x : Nat) (hx : x < 2 ^ 64) (hs : 64 ≤ 3 * s) : up s (down s x) = x := by
  apply Nat.eq_of_testBit_eq; intro i
  rw [up_bit, down_bit, down_bit, down_bit, show i + s + s = i + 2 * s by omega, high x hx (i + 2 * s + s) (by omega)]
  cases x.testBit i <;> cases x.testBit (i + s) <;> cases x.testBit (i + 2 * s) <;> rfl
theorem down_up (s x : Nat) (hx : x < 2 ^ 64) (hs : 64 ≤ 3 * s) : down s (up s x) = x := by
  apply Nat.eq_of_testBit_eq; intro i
  rw [down_bit, up_bit, up_bit, show i + s + s = i + 2 * s by omega, high x hx (i + s + 2 * s) (by omega)]
  cases x.testBit i <;> cases x.testBit (i + s) <;> cases x.testBit (i + 2 * s) <;> rfl

def step (s f x : Nat) : Nat := down s x * f % 2 ^ 64
def unstep (s g y : Nat) : Nat := up s (y * g % 2 ^ 64)
theorem step_lt (s f x : Nat) : step s f x < 2 ^ 64 := Nat.mod_lt _ (Nat.two_pow_pos _)
theorem unstep_lt (s g x : Nat) : unstep s g x < 2 ^ 64 := up_lt _ _ (Nat.mod_lt _ (Nat.two_pow_pos _))
theorem mul_back (x f g : Nat) (hx : x < 2 ^ 64) (h : f * g % 2 ^ 64 = 1) : x * f % 2 ^ 64 * g % 2 ^ 64 = x := by
  rw [Nat.mod_mul_mod, Nat.mul_assoc, ← Nat.mul_mod_mod, h, Nat.mul_one, Nat.mod_eq_of_lt hx]
theorem unstep_step (s f g x : Nat) (hx : x < 2 ^ 64) (hs : 64 ≤ 3 * s) (h : f * g % 2 ^ 64 = 1) : unstep s g (step s f x) = x := by
  unfold unstep step; rw [mul_back _ _ _ (down_lt s x hx) h, up_down s x hx hs]
theorem step_unstep (s f g x : Nat) (hx : x < 2 ^ 64) (hs : 64 ≤ 3 * s) (h : f * g % 2 ^ 64 = 1) : step s f (unstep s g x) = x := by
  unfold unstep step; rw [down_up s _ (Nat.mod_lt _ (Nat.two_pow_pos _)) hs, mul_back _ _ _ hx (by rw [Nat.mul_comm]; exact h)]

/-- The factors and their reciprocals. -/
def fA : Nat := 11400714819323198485
def fB : Nat := 13787848793156543929
def fC : Nat := 10723151780598845931
/-- One round of the search for a reciprocal. -/
def closer (f r : Nat) : Nat := r * ((2 + (2 ^ 64 - f * r % 2 ^ 64)) % 2 ^ 64) % 2 ^ 64
def recip (f : Nat) : Nat := closer f (closer f (closer f (closer f (closer f f))))
theorem recip_B : fB * recip fB % 2 ^ 64 = 1 := by decide +kernel
theorem recip_C : fC * recip fC % 2 ^ 64 = 1 := by decide +kernel
theorem recip_1 : 1 * recip 1 % 2 ^ 64 = 1 := by decide +kernel

def mix (x : Nat) : Nat := step 31 1 (step 27 fC (step 30 fB x))
def unmix (y : Nat) : Nat := unstep 30 (recip fB) (unstep 27 (recip fC) (unstep 31 (recip 1) y))
theorem mix_lt (x : Nat) : mix x < 2 ^ 64 := step_lt ..
theorem unmix_lt (x : Nat) : unmix x < 2 ^ 64 := unstep_lt ..
theorem unmix_mix (x : Nat) (hx : x < 2 ^ 64) : unmix (mix x) = x := by
  unfold unmix mix
  rw [unstep_step 31 1 _ _ (step_lt ..) (by omega) recip_1, unstep_step 27 fC _ _ (step_lt ..) (by omega) recip_C, unstep_step 30 fB _ _ hx (by omega) recip_B]
theorem mix_unmix (x : Nat) (hx : x < 2 ^ 64) : mix (unmix x) = x := by
  unfold unmix mix
  rw [step_unstep 30 fB _ _ (unstep_lt ..) (by omega) recip_B, step_unstep 27 fC _ _ (unstep_lt ..) (by omega) recip_C, step_unstep 31 1 _ _ hx (by omega) recip_1]

/-- What Word and Unword answer. -/
def word (seed x : Nat) : Nat := mix (((seed ^^^ x) + fA) % 2 ^ 64)
def unword (seed y : Nat) : Nat := ((unmix y + (2 ^ 64 - fA)) % 2 ^ 64) ^^^ seed
theorem word_lt (seed x : Nat) : word seed x < 2 ^ 64 := mix_lt _
theorem unword_lt (seed x : Nat) (h : seed < 2 ^ 64) : unword seed x < 2 ^ 64 := Nat.xor_lt_two_pow (Nat.mod_lt _ (Nat.two_pow_pos _)) h
theorem xor_twice (a b : Nat) : a ^^^ b ^^^ b = a := by rw [Nat.xor_assoc, Nat.xor_self, Nat.xor_zero]
theorem unword_word (seed x : Nat) (hs : seed < 2 ^ 64) (hx : x < 2 ^ 64) : unword seed (word seed x) = x := by
  unfold unword word
  rw [unmix_mix _ (Nat.mod_lt _ (Nat.two_pow_pos _))]
  have h := Nat.xor_lt_two_pow hs hx
  have e : ((seed ^^^ x) + fA) % 2 ^ 64 + (2 ^ 64 - fA) = ((seed ^^^ x) + fA) % 2 ^ 64 + 7046029254386353131 := rfl
  have e2 : (((seed ^^^ x) + fA) % 2 ^ 64 + 7046029254386353131) % 2 ^ 64 = seed ^^^ x := by unfold fA; omega
  rw [e, e2, Nat.xor_comm seed, xor_twice]
theorem word_unword (seed y : Nat) (hy : y < 2 ^ 64) : word seed (unword seed y) = y := by
  unfold unword word
  rw [Nat.xor_comm seed, xor_twice]
  have h := unmix_lt y
  have e : (unmix y + (2 ^ 64 - fA)) % 2 ^ 64 + fA = (unmix y + 7046029254386353131) % 2 ^ 64 + fA := rfl
  have e2 : ((unmix y + 7046029254386353131) % 2 ^ 64 + fA) % 2 ^ 64 = unmix y := by unfold fA; omega
  rw [e, e2, mix_unmix y hy]
theorem word_inj {seed x y : Nat} (hs : seed < 2 ^ 64) (hx : x < 2 ^ 64) (hy : y < 2 ^ 64) (h : word seed x = word seed y) : x = y := by
  rw [← unword_word seed x hs hx, h, unword_word seed y hs hy]
theorem word_comm (a b : Nat) : word a b = word b a := by unfold word; rw [Nat.xor_comm]
theorem word_inj_seed {seed x y : Nat} (hs : seed < 2 ^ 64) (hx : x < 2 ^ 64) (hy : y < 2 ^ 64) (h : word x seed = word y seed) : x = y := by
  rw [word_comm x, word_comm y] at h; exact word_inj hs hx hy h
theorem rot_inj {x y r : Nat} (hx : x < 2 ^ 64) (hy : y < 2 ^ 64) (hr : r < 64) (h : rot x r = rot y r) : x = y := by
  rw [← rot_back x r hx hr, h, rot_back y r hy hr]

/-- The exclusive or, gathered from its bits. -/
theorem xor_gather (a b : Nat) (ha : a < 2 ^ 64) (hb : b < 2 ^ 64) : a ^^^ b = gather (fun j => a.testBit j ^^ b.testBit j) :=
  gather_eq (Nat.xor_lt_two_pow ha hb) (fun j _ => by rw [Nat.testBit_xor])

/-- One word more. -/
def next (h x : Nat) : Nat := word (rot h 23) x
def chain (h : Nat) (l : List Nat) : Nat := l.foldl next h
theorem next_lt (h x : Nat) : next h x < 2 ^ 64 := word_lt ..
theorem chain_nil (h : Nat) : chain h [] = h := List.foldl_nil ..
theorem chain_cons (h x : Nat) (l : List Nat) : chain h (x :: l) = chain (next h x) l := List.foldl_cons ..
theorem chain_app (h : Nat) (l m : List Nat) : chain h (l ++ m) = chain (chain h l) m := List.foldl_append ..
theorem chain_lt (h : Nat) (l : List Nat) (hh : h < 2 ^ 64) : chain h l < 2 ^ 64 := by
  induction l generalizing h with
  | nil => rw [chain_nil]; exact hh
  | cons x l ih => rw [chain_cons]; exact ih _ (next_lt ..)
theorem chain_snoc (h : Nat) (l : List Nat) (x : Nat) : chain h (l ++ [x]) = next (chain h l) x := by rw [chain_app, chain_cons, chain_nil]
theorem next_inj {h k x : Nat} (hh : h < 2 ^ 64) (hk : k < 2 ^ 64) (hx : x < 2 ^ 64) (e : next h x = next k x) : h = k := by
  rw [next, next] at e
  exact rot_inj hh hk (show 23 < 64 by decide) (word_inj_seed hx (rot_lt h 23) (rot_lt k 23) e)
theorem chain_inj (l : List Nat) (hl : ∀ x ∈ l, x < 2 ^ 64) : ∀ h k : Nat, h < 2 ^ 64 → k < 2 ^ 64 → chain h l = chain k l → h = k := by
  induction l with
  | nil => intro h k _ _ e; rw [chain_nil, chain_nil] at e; exact e
  | cons x l ih =>
    intro h k hh hk e
    rw [chain_cons, chain_cons] at e
    exact next_inj hh hk (hl x (List.mem_cons_self ..)) (ih (fun y hy => hl y (List.mem_cons_of_mem _ hy)) _ _ (next_lt h x) (next_lt k x) e)
theorem chain_tells (h : Nat) (p q : List Nat) (x y : Nat) (hq : ∀ z ∈ q, z < 2 ^ 64) (hx : x < 2 ^ 64) (hy : y < 2 ^ 64) (e : chain h (p ++ x :: q) = chain h (p ++ y :: q)) : x = y := by
  rw [chain_app, chain_app, chain_cons, chain_cons] at e
  have e2 := chain_inj q hq _ _ (next_lt (chain h p) x) (next_lt (chain h p) y) e
  rw [next, next] at e2
  exact word_inj (rot_lt (chain h p) 23) hx hy e2

/-- The groups of a byte string, as numbers. -/
def group (l : List Int) (i : Nat) : List Int := (l.drop (8 * i)).take 8
def wordAt (l : List Int) (i : Nat) : Nat := (get (group l i)).toNat
def count (n : Nat) : Nat := (n + 7) / 8
def words (l : List Int) (k : Nat) : List Nat := (List.range k).map (wordAt l)
theorem words_succ (l : List Int) (k : Nat) : words l (k + 1) = words l k ++ [wordAt l k] := by simp [words, List.range_succ]
theorem group_bytes {l : List Int} (h : Bytes l) (i : Nat) : Bytes (group l i) := (h.drop _).take _
theorem group_len (l : List Int) (i : Nat) : (group l i).length = min 8 (l.length - 8 * i) := by simp [group]
theorem wordAt_lt {l : List Int} (h : Bytes l) (i : Nat) : wordAt l i < 2 ^ 64 := by
  have := get_small (group l i) (group_bytes h i) (by rw [group_len]; omega)
  unfold wordAt; omega
theorem wordAt_int {l : List Int} (h : Bytes l) (i : Nat) : ((wordAt l i : Nat) : Int) = get (group l i) := by
  have := get_small (group l i) (group_bytes h i) (by rw [group_len]; omega)
  unfold wordAt; omega
def sum (seed : Nat) (l : List Int) : Nat := chain (word seed l.length) (words l (count l.length))
theorem sum_lt (seed : Nat) (l : List Int) : sum seed l < 2 ^ 64 := chain_lt _ _ (word_lt ..)
theorem get_inj {l m : List Int} (hl : Bytes l) (hm : Bytes m) (hn : l.length = m.length) (h : get l = get m) : l = m := by
  induction l generalizing m with
  | nil => cases m with
    | nil => rfl
    | cons => simp at hn
  | cons c r ih => cases m with
    | nil => simp at hn
    | cons d t =>
      have h1 := hl c (List.mem_cons_self ..)
      have h2 := hm d (List.mem_cons_self ..)
      simp only [get] at h
      have e : c = d := by omega
      rw [e, ih (fun x hx => hl x (List.mem_cons_of_mem _ hx)) (fun x hx => hm x (List.mem_cons_of_mem _ hx)) (by simpa using hn) (by omega)]
theorem get_zeros (l : List Int) (k : Nat) : get (l ++ List.replicate k 0) = get l := by
  induction l with
  | nil => induction k with
    | zero => rfl
    | succ k ih => rw [List.nil_append] at ih ⊢; rw [List.replicate_succ]; show 0 + 256 * get (List.replicate k 0) = get []; rw [ih]; rfl
  | cons c r ih => rw [List.cons_append, get, ih, get]

/-- The bytes, with the group g in place of theirs from 8 * j on. -/
def changed (l : List Int) (j : Nat) (g : List Int) : List Int := l.take (8 * j) ++ g ++ l.drop (8 * j + 8)
theorem changed_len (l g : List Int) (j : Nat) (hg : g.length = 8) (hj : 8 * j + 8 ≤ l.length) : (changed l j g).length = l.length := by simp [changed, hg]; omega
theorem changed_bytes {l g : List Int} (j : Nat) (hl : Bytes l) (hg : Bytes g) : Bytes (changed l j g) := ((hl.take _).app hg).app (hl.drop _)
theorem changed_group (l g : List Int) (j : Nat) (hg : g.length = 8) (hj : 8 * j + 8 ≤ l.length) : group (changed l j g) j = g := by
  unfold group changed
  rw [List.append_assoc, List.drop_append_of_le_length (by simp; omega), List.drop_of_length_le (by simp; omega), List.nil_append, List.take_append_of_le_length (by omega), List.take_of_length_le (by omega)]
theorem changed_other (l g : List Int) (i j : Nat) (hg : g.length = 8) (hj : 8 * j + 8 ≤ l.length) (hi : i ≠ j) : group (changed l j g) i = group l i := by
  have key : ∀ k, k < 8 → (changed l j g)[8 * i + k]? = l[8 * i + k]? := by
    intro k hk
    unfold changed
    by_cases h : i < j
    · rw [List.append_assoc, List.getElem?_append_left (by simp; omega), List.getElem?_take, if_pos (by omega)]
    · rw [List.getElem?_append_right (by simp [hg]; omega), List.getElem?_drop]; congr 1; simp [hg]; omega
  apply List.ext_getElem?
  intro k
  unfold group
  rw [List.getElem?_take, List.getElem?_take]
  by_cases hk : k < 8
  · rw [if_pos hk, if_pos hk, List.getElem?_drop, List.getElem?_drop, key k hk]
  · rw [if_neg hk, if_neg hk]
theorem range_cut (j k : Nat) (h : j < k) : List.range k = List.range j ++ j :: List.range' (j + 1) (k - j - 1) := by
  rw [List.range_eq_range', List.range_eq_range']
  have h1 : List.range' 0 k = List.range' 0 j ++ List.range' j (k - j) := by
    have := @List.range'_append 0 j (k - j) 1
    simp at this; rw [this]; congr 1; omega
  rw [h1]
  congr 1
  obtain ⟨m, hm⟩ : ∃ m, k - j = m + 1 := ⟨k - j - 1, by omega⟩
  rw [hm, List.range'_succ, Nat.add_sub_cancel]
theorem words_cut (l : List Int) (j k : Nat) (h : j < k) : words l k = words l j ++ wordAt l j :: (List.range' (j + 1) (k - j - 1)).map (wordAt l) := by
  unfold words
  rw [range_cut j k h, List.map_append, List.map_cons]
theorem sum_changed (seed : Nat) (l g : List Int) (j : Nat) (hl : Bytes l) (hgb : Bytes g) (hg : g.length = 8) (hj : 8 * j + 8 ≤ l.length) :
    sum seed l = sum seed (changed l j g) ↔ group l j = g := by
  have hlen := changed_len l g j hg hj
  have hc : j < count l.length := by unfold count; omega
  have e1 : words (changed l j g) j = words l j := List.map_congr_left (fun i hi => by
    have := List.mem_range.1 hi; unfold wordAt; rw [changed_other l g i j hg hj (by omega)])
  have e2 : (List.range' (j + 1) (count l.length - j - 1)).map (wordAt (changed l j g)) = (List.range' (j + 1) (count l.length - j - 1)).map (wordAt l) := List.map_congr_left (fun i hi => by
    have := (List.mem_range'_1.1 hi).1; unfold wordAt; rw [changed_other l g i j hg hj (by omega)])
  unfold sum
  rw [hlen, words_cut l j _ hc, words_cut (changed l j g) j _ hc, e1, e2]
  constructor
  · intro h
    have := chain_tells _ _ _ _ _ (fun z hz => by obtain ⟨i, _, rfl⟩ := List.mem_map.1 hz; exact wordAt_lt hl i) (wordAt_lt hl j) (wordAt_lt (changed_bytes j hl hgb) j) h
    have h2 : get (group l j) = get g := by rw [← wordAt_int hl j, this, wordAt_int (changed_bytes j hl hgb) j, changed_group l g j hg hj]
    exact get_inj (group_bytes hl j) hgb (by rw [group_len, hg]; omega) h2
  · intro h
    have : wordAt (changed l j g) j = wordAt l j := by unfold wordAt; rw [changed_group l g j hg hj, h]
    rw [this]
end Go.Proofs.Ytmdolblcffnkcaa.M
