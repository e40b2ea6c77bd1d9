/- Names as lists of numbers: no program in this text. -/
import Derived.Test.YteggjihhjdeieaaGreatMath
import Derived.Laws.BytesArg
import Derived.Laws.Externs
namespace Go.Proofs.YteggjihhjdeieaaGreat
namespace M

theorem Bytes.tail {x : Int} {l : List Int} (h : Bytes (x :: l)) : Bytes l := fun y hy => h y (List.mem_cons_of_mem _ hy)
theorem Bytes.head {x : Int} {l : List Int} (h : Bytes (x :: l)) : 0 ≤ x ∧ x < 256 := h x (List.mem_cons_self ..)
theorem Bytes.getD {l : List Int} (h : Bytes l) (i : Nat) : 0 ≤ l.getD i 0 ∧ l.getD i 0 < 256 := by
  rw [List.getD_eq_getElem?_getD]
  by_cases hi : i < l.length
  · rw [List.getElem?_eq_getElem hi]; exact h.at_ i hi
  · rw [List.getElem?_eq_none (by omega)]; simp
def letter (c : Int) : Bool := decide (97 ≤ c) && decide (c ≤ 122)
def digit (c : Int) : Bool := decide (48 ≤ c) && decide (c ≤ 57)
def other (c : Int) : Bool := letter c || digit c || (c == 45)
def isN (l : List Int) : Bool := decide (1 ≤ l.length) && decide (l.length ≤ 8) && letter (l.headD 0) && l.all other
def good (i : Nat) (c : Int) : Bool := letter c || ((digit c || (c == 45)) && decide (0 < i))
def everyFrom : Nat → List Int → Bool
  | _, [] => true
  | i, c :: l => good i c && everyFrom (i + 1) l
def every (l : List Int) : Bool := everyFrom 0 l
def text (l : List Int) : List Int := l.takeWhile (· != 0)
def padTo : Nat → List Int → List Int
  | 0, _ => []
  | k + 1, [] => 0 :: padTo k []
  | k + 1, c :: l => c :: padTo k l
def pad (t : List Int) : List Int := padTo 8 t
def zero8 : List Int := [0, 0, 0, 0, 0, 0, 0, 0]
def rightB (n : List Int) : Bool := n != zero8 && (pad (text n) == n && every (text n))
def refRightB (n : List Int) : Bool := isN (text n) && pad (text n) == n
def ofB (s : List Int) : Bool := text (pad s) == s && rightB (pad s)

theorem padTo_len : ∀ k t, (padTo k t).length = k
  | 0, _ => rfl
  | k + 1, [] => by unfold padTo; rw [List.length_cons, padTo_len]
  | k + 1, _ :: l => by unfold padTo; rw [List.length_cons, padTo_len]
theorem pad_len (t : List Int) : (pad t).length = 8 := padTo_len 8 t
theorem padTo_bytes : ∀ k t, Bytes t → Bytes (padTo k t)
  | 0, _, _ => fun x h => by cases h
  | k + 1, [], _ => fun x h => by
    unfold padTo at h
    rcases List.mem_cons.1 h with rfl | h
    · omega
    · exact padTo_bytes k [] (fun _ h => by cases h) x h
  | k + 1, c :: l, hb => fun x h => by
    unfold padTo at h
    rcases List.mem_cons.1 h with rfl | h
    · exact hb.head
    · exact padTo_bytes k l hb.tail x h
theorem pad_bytes {t : List Int} (h : Bytes t) : Bytes (pad t) := padTo_bytes 8 t h
theorem padTo_get : ∀ k t (i : Nat), i < k → (padTo k t)[i]? = some (t.getD i 0)
  | 0, _, i, h => by omega
  | k + 1, [], 0, _ => rfl
  | k + 1, [], i + 1, h => by
    unfold padTo
    rw [List.getElem?_cons_succ, padTo_get k [] i (by omega)]
    rfl
  | k + 1, c :: l, 0, _ => rfl
  | k + 1, c :: l, i + 1, h => by
    unfold padTo
    rw [List.getElem?_cons_succ, padTo_get k l i (by omega)]
    rfl
theorem pad_get (t : List Int) (i : Nat) (h : i < 8) : (pad t)[i]? = some (t.getD i 0) := padTo_get 8 t i h
theorem padTo_nil : ∀ k, padTo k [] = List.replicate k 0
  | 0 => rfl
  | k + 1 => by unfold padTo; rw [padTo_nil k]; rfl
theorem text_len (l : List Int) : (text l).length ≤ l.length := (List.takeWhile_prefix _).length_le
theorem text_bytes {l : List Int} (h : Bytes l) : Bytes (text l) := fun x hx => h x ((List.takeWhile_prefix _).subset hx)
theorem text_cons (c : Int) (l : List Int) : text (c :: l) = if c = 0 then [] else c :: text l := by
  unfold text
  rw [List.takeWhile_cons]
  by_cases h : c = 0
  · simp [h]
  · simp [h]
theorem text_nonzero : ∀ {l : List Int} {x : Int}, x ∈ text l → x ≠ 0
  | c :: l, x, h => by
    rw [text_cons] at h
    split at h
    · cases h
    · rcases List.mem_cons.1 h with rfl | h
      · assumption
      · exact text_nonzero h
/-- The text of what was padded is what was padded, if it is short and holds no zero. -/
theorem text_padTo : ∀ (k : Nat) (t : List Int), t.length ≤ k → (∀ x ∈ t, x ≠ 0) → text (padTo k t) = t
  | 0, [], _, _ => rfl
  | k + 1, [], _, _ => by unfold padTo; rw [text_cons, if_pos rfl]
  | k + 1, c :: l, hl, hz => by
    unfold padTo
    rw [text_cons, if_neg (hz c (List.mem_cons_self ..)), text_padTo k l (by simpa using hl) (fun x hx => hz x (List.mem_cons_of_mem _ hx))]
theorem text_pad_text {n : List Int} (h : n.length ≤ 8) : text (pad (text n)) = text n := text_padTo 8 _ (Nat.le_trans (text_len n) h) (fun _ => text_nonzero)
theorem other_nonzero {c : Int} (h : other c = true) : c ≠ 0 := by
  rintro rfl
  revert h
  decide
theorem everyFrom_pos : ∀ (l : List Int) (i : Nat), 0 < i → everyFrom i l = l.all other
  | [], _, _ => rfl
  | c :: l, i, h => by
    unfold everyFrom
    rw [everyFrom_pos l (i + 1) (by omega), List.all_cons]
    congr 1
    unfold good other
    simp [h, Bool.or_assoc]
theorem every_is (c : Int) (l : List Int) : every (c :: l) = (letter c && (c :: l).all other) := by
  unfold every everyFrom
  rw [everyFrom_pos l 1 (by omega), List.all_cons]
  have : good 0 c = letter c := by unfold good; simp
  rw [this]
  cases hl : letter c
  · rfl
  · have : other c = true := by unfold other; simp [hl]
    simp [this]
/-- A text of 1 to 8 bytes: what 'every' says is what the definition says. -/
theorem isN_every (t : List Int) (h8 : t.length ≤ 8) : isN t = (!t.isEmpty && every t) := by
  cases t with
  | nil => rfl
  | cons c l =>
    rw [every_is]
    unfold isN
    have e1 : decide (1 ≤ (c :: l).length) = true := by simp
    have e2 : decide ((c :: l).length ≤ 8) = true := by simpa using h8
    rw [e1, e2]
    rfl
theorem zero8_is : zero8 = pad [] := rfl
theorem right_eq (n : List Int) (h : n.length = 8) : rightB n = refRightB n := by
  unfold rightB refRightB
  rw [isN_every _ (by have := text_len n; omega)]
  by_cases hp : pad (text n) = n
  · have e1 : (pad (text n) == n) = true := by simpa using hp
    rw [e1]
    have e2 : (n != zero8) = !(text n).isEmpty := by
      cases ht : text n with
      | nil => rw [ht] at hp; rw [← hp]; rfl
      | cons c l =>
        have : n ≠ zero8 := by
          rintro rfl
          have : text zero8 = [] := by decide
          rw [this] at ht; cases ht
        simpa using this
    rw [e2]
    simp
  · have e1 : (pad (text n) == n) = false := by simpa using hp
    rw [e1]
    simp
theorem isN_nonzero {t : List Int} (h : isN t = true) : ∀ x ∈ t, x ≠ 0 := by
  unfold isN at h
  simp only [Bool.and_eq_true, List.all_eq_true] at h
  exact fun x hx => other_nonzero (h.2 x hx)
theorem isN_len {t : List Int} (h : isN t = true) : 1 ≤ t.length ∧ t.length ≤ 8 := by
  unfold isN at h
  simp only [Bool.and_eq_true, decide_eq_true_eq] at h
  exact ⟨h.1.1.1, h.1.1.2⟩
theorem of_eq (s : List Int) : ofB s = isN s := by
  unfold ofB
  rw [right_eq _ (pad_len s)]
  cases hn : isN s with
  | true =>
    have ht : text (pad s) = s := text_padTo 8 s (isN_len hn).2 (isN_nonzero hn)
    unfold refRightB
    rw [ht, hn]
    simp
  | false =>
    by_cases ht : text (pad s) = s
    · unfold refRightB
      rw [ht, hn]
      simp
    · have : (text (pad s) == s) = false := by simpa using ht
      rw [this]; rfl
/-- A name's text is a name, and comes back. -/
theorem right_text {n : List Int} (h : n.length = 8) (hr : rightB n = true) : ofB (text n) = true ∧ pad (text n) = n := by
  rw [of_eq]
  rw [right_eq n h] at hr
  unfold refRightB at hr
  simp only [Bool.and_eq_true, beq_iff_eq] at hr
  exact hr
theorem right_some {n : List Int} (hr : rightB n = true) : (n != zero8) = true := by
  unfold rightB at hr
  simp only [Bool.and_eq_true] at hr
  exact hr.1

def num (l : List Int) : Int := l.foldl (fun x c => 256 * x + c) 0
theorem num_from : ∀ (l : List Int) (x : Int), l.foldl (fun x c => 256 * x + c) x = x * 256 ^ l.length + num l
  | [], x => by simp [num]
  | c :: l, x => by
    unfold num
    rw [List.foldl_cons, List.foldl_cons, num_from l, num_from l (256 * 0 + c), List.length_cons, Int.pow_succ]
    have : (256 * x + c) * 256 ^ l.length = x * (256 ^ l.length * 256) + c * 256 ^ l.length := by
      rw [Int.add_mul, Int.mul_comm 256 x, Int.mul_assoc, Int.mul_comm 256 (256 ^ l.length)]
    rw [this, Int.mul_zero, Int.zero_add]
    omega
theorem num_cons (c : Int) (l : List Int) : num (c :: l) = c * 256 ^ l.length + num l := by
  unfold num
  rw [List.foldl_cons, num_from l, Int.mul_zero, Int.zero_add]
  rfl
theorem num_snoc (l : List Int) (c : Int) : num (l ++ [c]) = 256 * num l + c := by
  unfold num
  rw [List.foldl_append]
  rfl
theorem num_range : ∀ (l : List Int), Bytes l → 0 ≤ num l ∧ num l < 256 ^ l.length
  | [], _ => by simp [num]
  | c :: l, h => by
    have hc := h.head
    have ih := num_range l h.tail
    rw [num_cons, List.length_cons, Int.pow_succ]
    have h1 : 0 ≤ c * 256 ^ l.length := Int.mul_nonneg hc.1 (Int.le_trans ih.1 (Int.le_of_lt ih.2))
    have h2 : c * 256 ^ l.length ≤ 255 * 256 ^ l.length := Int.mul_le_mul_of_nonneg_right (by omega) (Int.le_trans ih.1 (Int.le_of_lt ih.2))
    omega
theorem num_app : ∀ (p q : List Int), num (p ++ q) = num p * 256 ^ q.length + num q
  | p, q => by
    unfold num
    rw [List.foldl_append, num_from q]
    rfl
theorem num_lex (p r s : List Int) (x y : Int) (hr : Bytes r) (hs : Bytes s) (hl : r.length = s.length) (h : x < y) : num (p ++ x :: r) < num (p ++ y :: s) := by
  rw [num_app, num_app, num_cons, num_cons, List.length_cons, List.length_cons, hl]
  have h1 := num_range r hr
  have h2 := num_range s hs
  rw [hl] at h1
  have h3 : (x + 1) * 256 ^ s.length ≤ y * 256 ^ s.length := Int.mul_le_mul_of_nonneg_right (by omega) (by omega)
  rw [Int.add_mul, Int.one_mul] at h3
  omega
theorem num_inj : ∀ (l m : List Int), Bytes l → Bytes m → l.length = m.length → num l = num m → l = m
  | [], [], _, _, _, _ => rfl
  | [], _ :: _, _, _, h, _ => by cases h
  | _ :: _, [], _, _, h, _ => by cases h
  | x :: l, y :: m, hl, hm, h, e => by
    have h' : l.length = m.length := by simpa using h
    have hx : x = y := by
      rcases Int.lt_trichotomy x y with hlt | he | hgt
      · have := num_lex [] l m x y hl.tail hm.tail h' hlt
        simp only [List.nil_append] at this
        omega
      · exact he
      · have := num_lex [] m l y x hm.tail hl.tail h'.symm hgt
        simp only [List.nil_append] at this
        omega
    subst hx
    rw [num_cons, num_cons, h'] at e
    rw [num_inj l m hl.tail hm.tail h' (by omega)]
/-- The bytes of a number, k of them, the most significant one first. -/
def digits : Nat → Int → List Int
  | 0, _ => []
  | k + 1, x => digits k (x / 256) ++ [x % 256]
theorem digits_len : ∀ k x, (digits k x).length = k
  | 0, _ => rfl
  | k + 1, x => by unfold digits; rw [List.length_append, digits_len]; rfl
theorem digits_bytes : ∀ k x, Bytes (digits k x)
  | 0, _ => fun _ h => by cases h
  | k + 1, x => fun y h => by
    unfold digits at h
    rcases List.mem_append.1 h with h | h
    · exact digits_bytes k _ y h
    · rw [List.mem_singleton] at h; subst h; omega
theorem num_digits : ∀ (k : Nat) (x : Int), 0 ≤ x → x < 256 ^ k → num (digits k x) = x
  | 0, x, h0, h1 => by simp at h1; simp [digits, num]; omega
  | k + 1, x, h0, h1 => by
    unfold digits
    rw [Int.pow_succ] at h1
    rw [num_snoc, num_digits k (x / 256) (by omega) (by omega)]
    omega
theorem digits_num (l : List Int) (k : Nat) (hl : l.length = k) (hb : Bytes l) : digits k (num l) = l := by
  have hr := num_range l hb
  rw [hl] at hr
  exact num_inj _ _ (digits_bytes _ _) hb (by rw [digits_len, hl]) (num_digits k _ hr.1 hr.2)
/-- Byte i from the end. -/
theorem digits_get : ∀ (k : Nat) (x : Int) (i : Nat), i < k → (digits k x)[k - 1 - i]? = some (x / 256 ^ i % 256)
  | 0, _, i, h => by omega
  | k + 1, x, 0, _ => by
    unfold digits
    rw [List.getElem?_append_right (by rw [digits_len]; omega), digits_len]
    simp
  | k + 1, x, i + 1, h => by
    unfold digits
    rw [List.getElem?_append_left (by rw [digits_len]; omega)]
    have := digits_get k (x / 256) i (by omega)
    rw [show k + 1 - 1 - (i + 1) = k - 1 - i by omega, this, Int.pow_succ, Int.mul_comm (256 ^ i), ← Int.ediv_ediv_of_nonneg (by omega)]
def lessB (a b : List Int) : Bool := decide (num a < num b)
theorem less_both {a b : List Int} (h : lessB a b = true) : lessB b a = false := by
  unfold lessB at *
  simp at *
  omega
theorem less_same {a b : List Int} (ha : Bytes a) (hb : Bytes b) (hl : a.length = b.length) (h1 : lessB a b = false) (h2 : lessB b a = false) : a = b := by
  unfold lessB at *
  simp at h1 h2
  exact num_inj a b ha hb hl (by omega)
theorem less_self (a : List Int) : lessB a a = false := by unfold lessB; simp

/-! Strings. -/
def nums (s : ByteArray) : List Int := s.data.toList.map fun b => (b.toNat : Int)
theorem nums_bytes (s : ByteArray) : Bytes (nums s) := fun x hx => by
  obtain ⟨b, _, rfl⟩ := List.mem_map.1 hx
  have := b.toNat_lt
  omega
theorem nums_len (s : ByteArray) : (nums s).length = s.size := by unfold nums; rw [List.length_map]; rfl
theorem str_nums (s : ByteArray) : strOfNums (nums s) = s := by
  obtain ⟨⟨l⟩⟩ := s
  unfold strOfNums nums
  congr 2
  rw [List.map_map]
  conv => rhs; rw [← List.map_id l]
  apply List.map_congr_left
  intro b _
  simp
theorem byte_back {x : Int} (h : 0 ≤ x ∧ x < 256) : ((UInt8.ofNat x.toNat).toNat : Int) = x := by
  simp
  omega
theorem nums_str {l : List Int} (h : Bytes l) : nums (strOfNums l) = l := by
  unfold nums
  rw [strOfNums_data, List.map_map]
  conv => rhs; rw [← List.map_id l]
  apply List.map_congr_left
  intro x hx
  exact byte_back (h x hx)
end M
end Go.Proofs.YteggjihhjdeieaaGreat
