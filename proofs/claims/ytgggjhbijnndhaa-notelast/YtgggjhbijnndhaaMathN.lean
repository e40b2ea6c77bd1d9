/- Names as lists of numbers: no program in this text. What is written and read, as lists of numbers: no program in this text. Keys as numbers: their words, order, validity and encoding; no program in this text. Names as lists of numbers: no program in this text. What is written and read, as lists of numbers: no program in this text. Keys as numbers: their words, order, validity and encoding; no program in this text. Atoms as numbers: validity, stamps, the order of values, encoding; no program in this text. -/
import Derived.Test.YtgggjhbijnndhaaMath
import Derived.Laws.BytesArg
import Derived.Laws.Externs
namespace Go.Proofs.Ytgggjhbijnndhaa
namespace M

theorem Bytes.tail {x : Int} {l : List Int} (h : Bytes (x :: l)) : Bytes l := fun y hy => h y (List.mem_cons_of_mem _ hy)
theorem Bytes.head {x : Int} {l : List Int} (h : Bytes (x :: l)) : 0 ≤ x ∧ x < 256 := h x (List.mem_cons_self ..)
theorem Bytes.getD {l : List Int} (h : Bytes l) (i : Nat) : 0 ≤ l.getD i 0 ∧ l.getD i 0 < 256 := by
  rw [List.getD_eq_getElem?_getD]
  by_cases hi : i < l.length
  · rw [List.getElem?_eq_getElem hi]; exact h.at_ i hi
  · rw [List.getElem?_eq_none (by omega)]; simp
def letter (c : Int) : Bool := decide (97 ≤ c) && decide (c ≤ 122)
def digit (c : Int) : Bool := decide (48 ≤ c) && decide (c ≤ 57)
def other (c : Int) : Bool := letter c || digit c || (c == 45)
def isN (l : List Int) : Bool := decide (1 ≤ l.length) && decide (l.length ≤ 8) && letter (l.headD 0) && l.all other
def good (i : Nat) (c : Int) : Bool := letter c || ((digit c || (c == 45)) && decide (0 < i))
def everyFrom : Nat → List Int → Bool
  | _, [] => true
  | i, c :: l => good i c && everyFrom (i + 1) l
def every (l : List Int) : Bool := everyFrom 0 l
def text (l : List Int) : List Int := l.takeWhile (· != 0)
def padTo : Nat → List Int → List Int
  | 0, _ => []
  | k + 1, [] => 0 :: padTo k []
  | k + 1, c :: l => c :: padTo k l
def pad (t : List Int) : List Int := padTo 8 t
def zero8 : List Int := [0, 0, 0, 0, 0, 0, 0, 0]
def rightB (n : List Int) : Bool := n != zero8 && (pad (text n) == n && every (text n))
def refRightB (n : List Int) : Bool := isN (text n) && pad (text n) == n
def ofB (s : List Int) : Bool := text (pad s) == s && rightB (pad s)

theorem padTo_len : ∀ k t, (padTo k t).length = k
  | 0, _ => rfl
  | k + 1, [] => by unfold padTo; rw [List.length_cons, padTo_len]
  | k + 1, _ :: l => by unfold padTo; rw [List.length_cons, padTo_len]
theorem pad_len (t : List Int) : (pad t).length = 8 := padTo_len 8 t
theorem padTo_bytes : ∀ k t, Bytes t → Bytes (padTo k t)
  | 0, _, _ => fun x h => by cases h
  | k + 1, [], _ => fun x h => by
    unfold padTo at h
    rcases List.mem_cons.1 h with rfl | h
    · omega
    · exact padTo_bytes k [] (fun _ h => by cases h) x h
  | k + 1, c :: l, hb => fun x h => by
    unfold padTo at h
    rcases List.mem_cons.1 h with rfl | h
    · exact hb.head
    · exact padTo_bytes k l hb.tail x h
theorem pad_bytes {t : List Int} (h : Bytes t) : Bytes (pad t) := padTo_bytes 8 t h
theorem padTo_get : ∀ k t (i : Nat), i < k → (padTo k t)[i]? = some (t.getD i 0)
  | 0, _, i, h => by omega
  | k + 1, [], 0, _ => rfl
  | k + 1, [], i + 1, h => by
    unfold padTo
    rw [List.getElem?_cons_succ, padTo_get k [] i (by omega)]
    rfl
  | k + 1, c :: l, 0, _ => rfl
  | k + 1, c :: l, i + 1, h => by
    unfold padTo
    rw [List.getElem?_cons_succ, padTo_get k l i (by omega)]
    rfl
theorem pad_get (t : List Int) (i : Nat) (h : i < 8) : (pad t)[i]? = some (t.getD i 0) := padTo_get 8 t i h
theorem padTo_nil : ∀ k, padTo k [] = List.replicate k 0
  | 0 => rfl
  | k + 1 => by unfold padTo; rw [padTo_nil k]; rfl
theorem text_len (l : List Int) : (text l).length ≤ l.length := (List.takeWhile_prefix _).length_le
theorem text_bytes {l : List Int} (h : Bytes l) : Bytes (text l) := fun x hx => h x ((List.takeWhile_prefix _).subset hx)
theorem text_cons (c : Int) (l : List Int) : text (c :: l) = if c = 0 then [] else c :: text l := by
  unfold text
  rw [List.takeWhile_cons]
  by_cases h : c = 0
  · simp [h]
  · simp [h]
theorem text_nonzero : ∀ {l : List Int} {x : Int}, x ∈ text l → x ≠ 0
  | c :: l, x, h => by
    rw [text_cons] at h
    split at h
    · cases h
    · rcases List.mem_cons.1 h with rfl | h
      · assumption
      · exact text_nonzero h
/-- The text of what was padded is what was padded, if it is short and holds no zero. -/
theorem text_padTo : ∀ (k : Nat) (t : List Int), t.length ≤ k → (∀ x ∈ t, x ≠ 0) → text (padTo k t) = t
  | 0, [], _, _ => rfl
  | k + 1, [], _, _ => by unfold padTo; rw [text_cons, if_pos rfl]
  | k + 1, c :: l, hl, hz => by
    unfold padTo
    rw [text_cons, if_neg (hz c (List.mem_cons_self ..)), text_padTo k l (by simpa using hl) (fun x hx => hz x (List.mem_cons_of_mem _ hx))]
theorem text_pad_text {n : List Int} (h : n.length ≤ 8) : text (pad (text n)) = text n := text_padTo 8 _ (Nat.le_trans (text_len n) h) (fun _ => text_nonzero)
theorem other_nonzero {c : Int} (h : other c = true) : c ≠ 0 := by
  rintro rfl
  revert h
  decide
theorem everyFrom_pos : ∀ (l : List Int) (i : Nat), 0 < i → everyFrom i l = l.all other
  | [], _, _ => rfl
  | c :: l, i, h => by
    unfold everyFrom
    rw [everyFrom_pos l (i + 1) (by omega), List.all_cons]
    congr 1
    unfold good other
    simp [h, Bool.or_assoc]
theorem every_is (c : Int) (l : List Int) : every (c :: l) = (letter c && (c :: l).all other) := by
  unfold every everyFrom
  rw [everyFrom_pos l 1 (by omega), List.all_cons]
  have : good 0 c = letter c := by unfold good; simp
  rw [this]
  cases hl : letter c
  · rfl
  · have : other c = true := by unfold other; simp [hl]
    simp [this]
/-- A text of 1 to 8 bytes: what 'every' says is what the definition says. -/
theorem isN_every (t : List Int) (h8 : t.length ≤ 8) : isN t = (!t.isEmpty && every t) := by
  cases t with
  | nil => rfl
  | cons c l =>
    rw [every_is]
    unfold isN
    have e1 : decide (1 ≤ (c :: l).length) = true := by simp
    have e2 : decide ((c :: l).length ≤ 8) = true := by simpa using h8
    rw [e1, e2]
    rfl
theorem zero8_is : zero8 = pad [] := rfl
theorem right_eq (n : List Int) (h : n.length = 8) : rightB n = refRightB n := by
  unfold rightB refRightB
  rw [isN_every _ (by have := text_len n; omega)]
  by_cases hp : pad (text n) = n
  · have e1 : (pad (text n) == n) = true := by simpa using hp
    rw [e1]
    have e2 : (n != zero8) = !(text n).isEmpty := by
      cases ht : text n with
      | nil => rw [ht] at hp; rw [← hp]; rfl
      | cons c l =>
        have : n ≠ zero8 := by
          rintro rfl
          have : text zero8 = [] := by decide
          rw [this] at ht; cases ht
        simpa using this
    rw [e2]
    simp
  · have e1 : (pad (text n) == n) = false := by simpa using hp
    rw [e1]
    simp
theorem isN_nonzero {t : List Int} (h : isN t = true) : ∀ x ∈ t, x ≠ 0 := by
  unfold isN at h
  simp only [Bool.and_eq_true, List.all_eq_true] at h
  exact fun x hx => other_nonzero (h.2 x hx)
theorem isN_len {t : List Int} (h : isN t = true) : 1 ≤ t.length ∧ t.length ≤ 8 := by
  unfold isN at h
  simp only [Bool.and_eq_true, decide_eq_true_eq] at h
  exact ⟨h.1.1.1, h.1.1.2⟩
theorem of_eq (s : List Int) : ofB s = isN s := by
  unfold ofB
  rw [right_eq _ (pad_len s)]
  cases hn : isN s with
  | true =>
    have ht : text (pad s) = s := text_padTo 8 s (isN_len hn).2 (isN_nonzero hn)
    unfold refRightB
    rw [ht, hn]
    simp
  | false =>
    by_cases ht : text (pad s) = s
    · unfold refRightB
      rw [ht, hn]
      simp
    · have : (text (pad s) == s) = false := by simpa using ht
      rw [this]; rfl
/-- A name's text is a name, and comes back. -/
theorem right_text {n : List Int} (h : n.length = 8) (hr : rightB n = true) : ofB (text n) = true ∧ pad (text n) = n := by
  rw [of_eq]
  rw [right_eq n h] at hr
  unfold refRightB at hr
  simp only [Bool.and_eq_true, beq_iff_eq] at hr
  exact hr
theorem right_some {n : List Int} (hr : rightB n = true) : (n != zero8) = true := by
  unfold rightB at hr
  simp only [Bool.and_eq_true] at hr
  exact hr.1

def num (l : List Int) : Int := l.foldl (fun x c => 256 * x + c) 0
theorem num_from : ∀ (l : List Int) (x : Int), l.foldl (fun x c => 256 * x + c) x = x * 256 ^ l.length + num l
  | [], x => by simp [num]
  | c :: l, x => by
    unfold num
    rw [List.foldl_cons, List.foldl_cons, num_from l, num_from l (256 * 0 + c), List.length_cons, Int.pow_succ]
    have : (256 * x + c) * 256 ^ l.length = x * (256 ^ l.length * 256) + c * 256 ^ l.length := by
      rw [Int.add_mul, Int.mul_comm 256 x, Int.mul_assoc, Int.mul_comm 256 (256 ^ l.length)]
    rw [this, Int.mul_zero, Int.zero_add]
    omega
theorem num_cons (c : Int) (l : List Int) : num (c :: l) = c * 256 ^ l.length + num l := by
  unfold num
  rw [List.foldl_cons, num_from l, Int.mul_zero, Int.zero_add]
  rfl
theorem num_snoc (l : List Int) (c : Int) : num (l ++ [c]) = 256 * num l + c := by
  unfold num
  rw [List.foldl_append]
  rfl
theorem num_range : ∀ (l : List Int), Bytes l → 0 ≤ num l ∧ num l < 256 ^ l.length
  | [], _ => by simp [num]
  | c :: l, h => by
    have hc := h.head
    have ih := num_range l h.tail
    rw [num_cons, List.length_cons, Int.pow_succ]
    have h1 : 0 ≤ c * 256 ^ l.length := Int.mul_nonneg hc.1 (Int.le_trans ih.1 (Int.le_of_lt ih.2))
    have h2 : c * 256 ^ l.length ≤ 255 * 256 ^ l.length := Int.mul_le_mul_of_nonneg_right (by omega) (Int.le_trans ih.1 (Int.le_of_lt ih.2))
    omega
theorem num_app : ∀ (p q : List Int), num (p ++ q) = num p * 256 ^ q.length + num q
  | p, q => by
    unfold num
    rw [List.foldl_append, num_from q]
    rfl
theorem num_lex (p r s : List Int) (x y : Int) (hr : Bytes r) (hs : Bytes s) (hl : r.length = s.length) (h : x < y) : num (p ++ x :: r) < num (p ++ y :: s) := by
  rw [num_app, num_app, num_cons, num_cons, List.length_cons, List.length_cons, hl]
  have h1 := num_range r hr
  have h2 := num_range s hs
  rw [hl] at h1
  have h3 : (x + 1) * 256 ^ s.length ≤ y * 256 ^ s.length := Int.mul_le_mul_of_nonneg_right (by omega) (by omega)
  rw [Int.add_mul, Int.one_mul] at h3
  omega
theorem num_inj : ∀ (l m : List Int), Bytes l → Bytes m → l.length = m.length → num l = num m → l = m
  | [], [], _, _, _, _ => rfl
  | [], _ :: _, _, _, h, _ => by cases h
  | _ :: _, [], _, _, h, _ => by cases h
  | x :: l, y :: m, hl, hm, h, e => by
    have h' : l.length = m.length := by simpa using h
    have hx : x = y := by
      rcases Int.lt_trichotomy x y with hlt | he | hgt
      · have := num_lex [] l m x y hl.tail hm.tail h' hlt
        simp only [List.nil_append] at this
        omega
      · exact he
      · have := num_lex [] m l y x hm.tail hl.tail h'.symm hgt
        simp only [List.nil_append] at this
        omega
    subst hx
    rw [num_cons, num_cons, h'] at e
    rw [num_inj l m hl.tail hm.tail h' (by omega)]
/-- The bytes of a number, k of them, the most significant one first. -/
def digits : Nat → Int → List Int
  | 0, _ => []
  | k + 1, x => digits k (x / 256) ++ [x % 256]
theorem digits_len : ∀ k x, (digits k x).length = k
  | 0, _ => rfl
  | k + 1, x => by unfold digits; rw [List.length_append, digits_len]; rfl
theorem digits_bytes : ∀ k x, Bytes (digits k x)
  | 0, _ => fun _ h => by cases h
  | k + 1, x => fun y h => by
    unfold digits at h
    rcases List.mem_append.1 h with h | h
    · exact digits_bytes k _ y h
    · rw [List.mem_singleton] at h; subst h; omega
theorem num_digits : ∀ (k : Nat) (x : Int), 0 ≤ x → x < 256 ^ k → num (digits k x) = x
  | 0, x, h0, h1 => by simp at h1; simp [digits, num]; omega
  | k + 1, x, h0, h1 => by
    unfold digits
    rw [Int.pow_succ] at h1
    rw [num_snoc, num_digits k (x / 256) (by omega) (by omega)]
    omega
theorem digits_num (l : List Int) (k : Nat) (hl : l.length = k) (hb : Bytes l) : digits k (num l) = l := by
  have hr := num_range l hb
  rw [hl] at hr
  exact num_inj _ _ (digits_bytes _ _) hb (by rw [digits_len, hl]) (num_digits k _ hr.1 hr.2)
/-- Byte i from the end. -/
theorem digits_get : ∀ (k : Nat) (x : Int) (i : Nat), i < k → (digits k x)[k - 1 - i]? = some (x / 256 ^ i % 256)
  | 0, _, i, h => by omega
  | k + 1, x, 0, _ => by
    unfold digits
    rw [List.getElem?_append_right (by rw [digits_len]; omega), digits_len]
    simp
  | k + 1, x, i + 1, h => by
    unfold digits
    rw [List.getElem?_append_left (by rw [digits_len]; omega)]
    have := digits_get k (x / 256) i (by omega)
    rw [show k + 1 - 1 - (i + 1) = k - 1 - i by omega, this, Int.pow_succ, Int.mul_comm (256 ^ i), ← Int.ediv_ediv_of_nonneg (by omega)]
def lessB (a b : List Int) : Bool := decide (num a < num b)
theorem less_both {a b : List Int} (h : lessB a b = true) : lessB b a = false := by
  unfold lessB at *
  simp at *
  omega
theorem less_same {a b : List Int} (ha : Bytes a) (hb : Bytes b) (hl : a.length = b.length) (h1 : lessB a b = false) (h2 : lessB b a = false) : a = b := by
  unfold lessB at *
  simp at h1 h2
  exact num_inj a b ha hb hl (by omega)
theorem less_self (a : List Int) : lessB a a = false := by unfold lessB; simp

/-! Strings. -/
def nums (s : ByteArray) : List Int := s.data.toList.map fun b => (b.toNat : Int)
theorem nums_bytes (s : ByteArray) : Bytes (nums s) := fun x hx => by
  obtain ⟨b, _, rfl⟩ := List.mem_map.1 hx
  have := b.toNat_lt
  omega
theorem nums_len (s : ByteArray) : (nums s).length = s.size := by unfold nums; rw [List.length_map]; rfl
theorem str_nums (s : ByteArray) : strOfNums (nums s) = s := by
  obtain ⟨⟨l⟩⟩ := s
  unfold strOfNums nums
  congr 2
  rw [List.map_map]
  conv => rhs; rw [← List.map_id l]
  apply List.map_congr_left
  intro b _
  simp
theorem byte_back {x : Int} (h : 0 ≤ x ∧ x < 256) : ((UInt8.ofNat x.toNat).toNat : Int) = x := by
  simp
  omega
theorem nums_str {l : List Int} (h : Bytes l) : nums (strOfNums l) = l := by
  unfold nums
  rw [strOfNums_data, List.map_map]
  conv => rhs; rw [← List.map_id l]
  apply List.map_congr_left
  intro x hx
  exact byte_back (h x hx)
end M
end Go.Proofs.Ytgggjhbijnndhaa
namespace Go.Proofs.Ytgggjhbijnndhaa.M

/-- What a read comes to: an error, or a value and the bytes behind it. -/
inductive Got (α : Type) where
  | bad (e : Int)
  | got (a : α) (rest : List Int)
def Got.map {α β : Type} (f : α → β) : Got α → Got β
  | .bad e => .bad e
  | .got a r => .got (f a) r
def rNum (most : Int) (l : List Int) : Got Int :=
  if (unv l 0 0).2.2 = 0 then (if most < (unv l 0 0).1 then .bad 2 else .got (unv l 0 0).1 (l.drop (unv l 0 0).2.1.toNat)) else .bad (unv l 0 0).2.2
def rByte : List Int → Got Int
  | [] => .bad 4
  | c :: r => .got c r
def rCut (n : Int) (l : List Int) : Got (List Int) := if (l.length : Int) < n then .bad 4 else .got (l.take n.toNat) (l.drop n.toNat)
def rName : List Int → Got (List Int)
  | [] => .bad 4
  | c :: r => if 8 < c then .bad 3 else if (r.length : Int) < c then .bad 4 else if 0 < c ∧ isN (r.take c.toNat) = false then .bad 3 else .got (pad (r.take c.toNat)) (r.drop c.toNat)
theorem rName_cons (c : Int) (r : List Int) : rName (c :: r) = if 8 < c then .bad 3 else if (r.length : Int) < c then .bad 4 else if 0 < c ∧ isN (r.take c.toNat) = false then .bad 3 else .got (pad (r.take c.toNat)) (r.drop c.toNat) := rfl
def rBytes (most : Int) (l : List Int) : Got (List Int) :=
  match rNum (max most 0) l with
  | .bad e => .bad e
  | .got x r => rCut x r
/-- What was read of a piece. -/
structure Val where
  x : Int
  c : Int
  nm : List Int
  b : List Int
def zeroV : Val := ⟨0, 0, zero8, []⟩
def rd (d x n : Int) (l : List Int) : Got Val :=
  if d = 0 then (rNum x l).map fun x => ⟨x, 0, zero8, []⟩
  else if d = 1 then (rByte l).map fun c => ⟨0, c, zero8, []⟩
  else if d = 2 then (rName l).map fun m => ⟨0, 0, m, []⟩
  else (rBytes n l).map fun b => ⟨0, 0, zero8, b⟩
def enc (d x c : Int) (nm b : List Int) : List Int :=
  if d = 0 then var x else if d = 1 then [c] else if d = 2 then ((text nm).length : Int) :: text nm else var b.length ++ b

theorem unv_zero (l : List Int) (k : Nat) (x : Int) : (unv l k x).2.2 = 0 ∨ ((unv l k x).1 = 0 ∧ (unv l k x).2.1 = 0) := by
  induction l generalizing k x with
  | nil => right; exact ⟨rfl, rfl⟩
  | cons c r ih =>
    unfold unv
    split
    · right; exact ⟨rfl, rfl⟩
    · split
      · right; exact ⟨rfl, rfl⟩
      · split
        · left; rfl
        · exact ih _ _
theorem unv_size {l : List Int} {z m : Int} (hb : Bytes l) (h : unv l 0 0 = (z, m, 0)) : 0 ≤ m ∧ m ≤ l.length ∧ 0 ≤ z ∧ z < 18446744073709551616 := by
  obtain ⟨y, j, _, _, hm, hj, _⟩ := var_unv l 0 0 z m hb h
  have := unv_range l 0 0 hb (by omega) (by omega) (by omega)
  rw [h] at this
  exact ⟨by omega, by omega, this.1, this.2⟩
theorem rNum_var (x most : Int) (more : List Int) (h0 : 0 ≤ x) (h1 : x < 18446744073709551616) (hm : x ≤ most) : rNum most (var x ++ more) = .got x more := by
  have h := unv_var more x h0 0 0 (by omega) (by omega) (by simpa using h1)
  unfold rNum
  rw [h]
  simp
  omega
theorem rCut_app (b more : List Int) : rCut b.length (b ++ more) = .got b more := by
  unfold rCut
  rw [if_neg (by simp; omega)]
  simp
theorem rBytes_back (b more : List Int) (h : (b.length : Int) < 18446744073709551616) : rBytes b.length (var b.length ++ b ++ more) = .got b more := by
  unfold rBytes
  rw [List.append_assoc, rNum_var _ _ _ (by omega) h (by omega)]
  exact rCut_app b more
theorem rName_back (n more : List Int) (hl : n.length = 8) (h : n = zero8 ∨ rightB n = true) : rName (((text n).length : Int) :: text n ++ more) = .got n more := by
  have ht := text_len n
  rw [List.cons_append, rName_cons, if_neg (by omega), if_neg (by simp; omega)]
  have h1 : (text n ++ more).take ((text n).length : Int).toNat = text n := by simp
  have h2 : (text n ++ more).drop ((text n).length : Int).toNat = more := by simp
  rw [h1, h2]
  rcases h with rfl | h
  · rfl
  · obtain ⟨h3, h4⟩ := right_text hl h
    rw [of_eq] at h3
    rw [if_neg (by rw [h3]; simp), h4]
theorem rd_back (d x c n : Int) (m b more : List Int) (h0 : 0 ≤ x) (h1 : x < 18446744073709551616) (hm : m.length = 8) (hr : d = 2 → m = zero8 ∨ rightB m = true) (hn : n = b.length) (hb : (b.length : Int) < 18446744073709551616) :
    ∃ a, rd d x n (enc d x c m b ++ more) = .got a more ∧ (d = 0 → a.x = x) ∧ (d = 1 → a.c = c) ∧ (d = 2 → a.nm = m) ∧ (d ≠ 0 → d ≠ 1 → d ≠ 2 → a.b = b) := by
  subst hn
  unfold rd enc
  by_cases e0 : d = 0
  · rw [if_pos e0, if_pos e0, rNum_var x x more h0 h1 (by omega)]
    exact ⟨_, rfl, fun _ => rfl, fun h => by omega, fun h => by omega, fun h => absurd e0 h⟩
  · rw [if_neg e0, if_neg e0]
    by_cases e1 : d = 1
    · rw [if_pos e1, if_pos e1]
      exact ⟨_, rfl, fun h => by omega, fun _ => rfl, fun h => by omega, fun _ h => absurd e1 h⟩
    · rw [if_neg e1, if_neg e1]
      by_cases e2 : d = 2
      · rw [if_pos e2, if_pos e2, rName_back m more hm (hr e2)]
        exact ⟨_, rfl, fun h => by omega, fun h => by omega, fun _ => rfl, fun _ _ h => absurd e2 h⟩
      · rw [if_neg e2, if_neg e2, rBytes_back b more hb]
        exact ⟨_, rfl, fun h => by omega, fun h => by omega, fun h => by omega, fun _ _ _ => rfl⟩
theorem enc_bytes {d x c : Int} {m b : List Int} (h0 : 0 ≤ x) (hc : 0 ≤ c ∧ c < 256) (hl : m.length = 8) (hm : Bytes m) (hb : Bytes b) : Bytes (enc d x c m b) := by
  unfold enc
  split
  · exact var_bytes x h0
  · split
    · intro y hy; obtain rfl := List.mem_singleton.1 hy; exact hc
    · split
      · intro y hy
        have ht := text_len m
        rcases List.mem_cons.1 hy with rfl | hy
        · omega
        · exact text_bytes hm y hy
      · exact (var_bytes _ (by omega)).app hb
theorem enc_len {d x c : Int} {m b : List Int} (h0 : 0 ≤ x) (h1 : x < 18446744073709551616) (hl : m.length = 8) (hb : b.length ≤ 60) : (enc d x c m b).length ≤ 70 := by
  unfold enc
  split
  · have := var_ten x h0 h1; omega
  · split
    · simp
    · split
      · have ht := text_len m
        simp; omega
      · have := var_ten (b.length : Int) (by omega) (by omega)
        simp; omega
end Go.Proofs.Ytgggjhbijnndhaa.M
namespace Go.Proofs.Ytgggjhbijnndhaa

/-- A key: what its fields hold. -/
structure Ky where
  s : Int
  c : Int
  m : List Int
  r : Int
  q : Int
deriving DecidableEq
structure Ky.Ok (k : Ky) : Prop where
  ml : k.m.length = 8
  mb : M.Bytes k.m
  s0 : 0 ≤ k.s
  s1 : k.s < 256
  c0 : 0 ≤ k.c
  c1 : k.c < 65536
  r0 : 0 ≤ k.r
  r1 : k.r < 256
  q0 : 0 ≤ k.q
  q1 : k.q < 4294967296
def kzero : Ky := ⟨0, 0, M.zero8, 0, 0⟩
theorem zero8_bytes : M.Bytes M.zero8 := fun x hx => by simp [M.zero8] at hx; omega
theorem kzero_ok : kzero.Ok := ⟨rfl, zero8_bytes, by decide, by decide, by decide, by decide, by decide, by decide, by decide, by decide⟩
/-- The words of a key. -/
def Ky.w0 (k : Ky) : Int := k.s * 65536 + k.c
def Ky.w1 (k : Ky) : Int := M.num k.m
def Ky.w2 (k : Ky) : Int := k.r * 4294967296 + k.q
def Ky.right (k : Ky) : Bool :=
  if k.s = 1 then M.rightB k.m && decide (k.r < 16) && decide (0 < k.q)
  else if k.s = 2 ∨ k.s = 3 then M.rightB k.m && decide (k.r < 16) && decide (k.q = 0)
  else if k.s = 4 then decide (k = ⟨4, k.c, M.zero8, 0, 0⟩)
  else false
theorem Ky.Ok.w0r {k : Ky} (h : k.Ok) : 0 ≤ k.w0 ∧ k.w0 < 16777216 := by
  have := h.s0; have := h.s1; have := h.c0; have := h.c1
  unfold Ky.w0; omega
theorem Ky.Ok.w1r {k : Ky} (h : k.Ok) : 0 ≤ k.w1 ∧ k.w1 < 18446744073709551616 := by
  have := M.num_range k.m h.mb
  rw [h.ml] at this
  exact this
theorem Ky.Ok.w2r {k : Ky} (h : k.Ok) : 0 ≤ k.w2 ∧ k.w2 < 1099511627776 := by
  have := h.r0; have := h.r1; have := h.q0; have := h.q1
  unfold Ky.w2; omega
theorem words_inj {a b : Ky} (ha : a.Ok) (hb : b.Ok) (h0 : a.w0 = b.w0) (h1 : a.w1 = b.w1) (h2 : a.w2 = b.w2) : a = b := by
  have hm := M.num_inj a.m b.m ha.mb hb.mb (by rw [ha.ml, hb.ml]) h1
  obtain ⟨s, c, m, r, q⟩ := a
  obtain ⟨s', c', m', r', q'⟩ := b
  have := ha.s0; have := ha.s1; have := ha.c0; have := ha.c1; have := ha.r0; have := ha.r1; have := ha.q0; have := ha.q1
  have := hb.s0; have := hb.s1; have := hb.c0; have := hb.c1; have := hb.r0; have := hb.r1; have := hb.q0; have := hb.q1
  simp only [Ky.w0, Ky.w2] at *
  obtain rfl : s = s' := by omega
  obtain rfl : c = c' := by omega
  obtain rfl : r = r' := by omega
  obtain rfl : q = q' := by omega
  obtain rfl := hm
  rfl
/-- Three words, compared lexicographically. -/
def less3 (a b c x y z : Int) : Bool := if a ≠ x then decide (a < x) else if b ≠ y then decide (b < y) else decide (c < z)
def Ky.less (a b : Ky) : Bool := less3 a.w0 a.w1 a.w2 b.w0 b.w1 b.w2
theorem less3_both {a b c x y z : Int} (h : less3 a b c x y z = true) : less3 x y z a b c = false := by
  unfold less3 at *
  split at h
  · rw [if_pos (fun e => by omega)]; simp only [decide_eq_true_eq] at h; simp; omega
  · split at h
    · rw [if_neg (fun e => by omega), if_pos (fun e => by omega)]; simp only [decide_eq_true_eq] at h; simp; omega
    · rw [if_neg (fun e => by omega), if_neg (fun e => by omega)]; simp only [decide_eq_true_eq] at h; simp; omega
theorem less3_none {a b c x y z : Int} (h : less3 a b c x y z = false) (h' : less3 x y z a b c = false) : a = x ∧ b = y ∧ c = z := by
  unfold less3 at *
  by_cases e : a = x
  · subst e
    rw [if_neg (fun h => h rfl)] at h h'
    by_cases e1 : b = y
    · subst e1
      rw [if_neg (fun h => h rfl)] at h h'
      simp only [decide_eq_false_iff_not] at h h'
      omega
    · rw [if_pos e1] at h
      rw [if_pos (fun e => e1 e.symm)] at h'
      simp only [decide_eq_false_iff_not] at h h'
      omega
  · rw [if_pos e] at h
    rw [if_pos (fun h => e h.symm)] at h'
    simp only [decide_eq_false_iff_not] at h h'
    omega
theorem less3_self (a b c : Int) : less3 a b c a b c = false := by unfold less3; simp
theorem less_total {a b : Ky} (ha : a.Ok) (hb : b.Ok) : (!a.less b && !b.less a) = decide (a = b) := by
  by_cases e : a = b
  · subst e
    unfold Ky.less
    rw [less3_self]
    simp
  · rw [decide_eq_false e]
    cases h1 : a.less b with
    | true => rfl
    | false =>
      cases h2 : b.less a with
      | true => rfl
      | false =>
        obtain ⟨x, y, z⟩ := less3_none h1 h2
        exact absurd (words_inj ha hb x y z) e
theorem less_both {a b : Ky} : (a.less b && b.less a) = false := by
  cases h1 : a.less b with
  | false => rfl
  | true =>
    have : b.less a = false := less3_both h1
    rw [this]; rfl
theorem words_eq {a b : Ky} (ha : a.Ok) (hb : b.Ok) : ((a.w0 == b.w0) && ((a.w1 == b.w1) && (a.w2 == b.w2))) = decide (a = b) := by
  by_cases e : a = b
  · subst e; simp
  · rw [decide_eq_false e]
    cases h : ((a.w0 == b.w0) && ((a.w1 == b.w1) && (a.w2 == b.w2))) with
    | false => rfl
    | true =>
      simp only [Bool.and_eq_true, beq_iff_eq] at h
      exact absurd (words_inj ha hb h.1 h.2.1 h.2.2) e
/-- The name whose number y is, or none. -/
def nameOf (y : Int) : List Int := if M.rightB (M.digits 8 y) = true then M.digits 8 y else M.zero8
/-- The key whose fields are the bits of three words. -/
def kcut (x y z : Int) : Ky := ⟨x / 65536 % 256, x % 65536, nameOf y, z / 4294967296 % 256, z % 4294967296⟩
theorem nameOf_len (y : Int) : (nameOf y).length = 8 := by
  unfold nameOf; split
  · exact M.digits_len 8 y
  · rfl
theorem nameOf_bytes (y : Int) : M.Bytes (nameOf y) := by
  unfold nameOf; split
  · exact M.digits_bytes 8 y
  · exact zero8_bytes
theorem kcut_ok (x y z : Int) : (kcut x y z).Ok := by
  refine ⟨nameOf_len y, nameOf_bytes y, ?_, ?_, ?_, ?_, ?_, ?_, ?_, ?_⟩ <;> simp only [kcut] <;> omega
def same3 (a b c x y z : Int) : Bool := (a == x) && ((b == y) && (c == z))
def fromB (x y z : Int) : Bool := same3 (kcut x y z).w0 (kcut x y z).w1 (kcut x y z).w2 x y z && (kcut x y z).right
def fromK (x y z : Int) : Ky := if fromB x y z = true then kcut x y z else kzero
def fromE (x y z : Int) : Int := if fromB x y z = true then 0 else 3
theorem right_cases {k : Ky} (h : k.right = true) : (k.s = 4 ∧ k.m = M.zero8 ∧ k.r = 0 ∧ k.q = 0) ∨ ((k.s = 1 ∧ 0 < k.q ∨ (k.s = 2 ∨ k.s = 3) ∧ k.q = 0) ∧ M.rightB k.m = true ∧ k.r < 16) := by
  unfold Ky.right at h
  split at h
  · right
    simp only [Bool.and_eq_true, decide_eq_true_eq] at h
    rename_i h1
    exact ⟨.inl ⟨h1, h.2⟩, h.1.1, h.1.2⟩
  · split at h
    · right
      simp only [Bool.and_eq_true, decide_eq_true_eq] at h
      rename_i h1
      exact ⟨.inr ⟨h1, h.2⟩, h.1.1, h.1.2⟩
    · split at h
      · left
        simp only [decide_eq_true_eq] at h
        rename_i h4
        obtain ⟨s, c, m, r, q⟩ := k
        simp only [Ky.mk.injEq] at h
        exact ⟨h4, h.2.2.1, h.2.2.2.1, h.2.2.2.2⟩
      · cases h
theorem cut_words {k : Ky} (h : k.Ok) (hr : k.right = true) : kcut k.w0 k.w1 k.w2 = k := by
  have hm : nameOf k.w1 = k.m := by
    unfold nameOf Ky.w1
    rw [M.digits_num k.m 8 h.ml h.mb]
    rcases right_cases hr with ⟨_, hm, _⟩ | ⟨_, hm, _⟩
    · rw [hm]; split <;> rfl
    · rw [if_pos hm]
  have := h.s0; have := h.s1; have := h.c0; have := h.c1; have := h.r0; have := h.r1; have := h.q0; have := h.q1
  obtain ⟨s, c, m, r, q⟩ := k
  simp only [Ky.w0, Ky.w2] at *
  simp only [kcut, Ky.mk.injEq]
  refine ⟨by omega, by omega, hm, by omega, by omega⟩
theorem from_words {k : Ky} (h : k.Ok) (hr : k.right = true) : fromB k.w0 k.w1 k.w2 = true := by
  unfold fromB
  rw [cut_words h hr, hr]
  simp [same3]
/-- A key as bytes. -/
def kenc (k : Ky) : List Int := [k.s] ++ (M.var k.c ++ (if k.s = 4 then [] else ((M.text k.m).length : Int) :: M.text k.m ++ ([k.r] ++ (if k.s = 1 then M.var k.q else []))))
/-- What the reads of a key come to. -/
def rKey (l : List Int) : M.Got Ky :=
  match M.rByte l with
  | .bad e => .bad e
  | .got s l1 =>
    if s < 1 ∨ 4 < s then .bad 3 else
    match M.rNum 65535 l1 with
    | .bad e => .bad e
    | .got c l2 =>
      if s = 4 then .got ⟨4, c, M.zero8, 0, 0⟩ l2 else
      match M.rName l2 with
      | .bad e => .bad e
      | .got m l3 =>
        if m = M.zero8 then .bad 3 else
        match M.rByte l3 with
        | .bad e => .bad e
        | .got r l4 =>
          if 16 ≤ r then .bad 2 else
          if s = 1 then
            match M.rNum 4294967295 l4 with
            | .bad e => .bad e
            | .got q l5 => if q = 0 then .bad 3 else .got ⟨1, c, m, r, q⟩ l5
          else .got ⟨s, c, m, r, 0⟩ l4
theorem rKey_back {k : Ky} (h : k.Ok) (hr : k.right = true) (more : List Int) : rKey (kenc k ++ more) = .got k more := by
  have e1 : M.rByte (kenc k ++ more) = .got k.s (M.var k.c ++ ((if k.s = 4 then [] else ((M.text k.m).length : Int) :: M.text k.m ++ ([k.r] ++ (if k.s = 1 then M.var k.q else []))) ++ more)) := by
    unfold kenc
    simp only [List.cons_append, List.nil_append, List.append_assoc]
    rfl
  have e2 := M.rNum_var k.c 65535 ((if k.s = 4 then [] else ((M.text k.m).length : Int) :: M.text k.m ++ ([k.r] ++ (if k.s = 1 then M.var k.q else []))) ++ more) h.c0 (by have := h.c1; omega) (by have := h.c1; omega)
  unfold rKey
  rw [e1]
  simp only
  rcases right_cases hr with ⟨h4, hm, hr0, hq0⟩ | ⟨hs, hm, hr16⟩
  · rw [if_neg (by omega), e2]
    simp only
    rw [if_pos h4, if_pos h4]
    obtain ⟨s, c, m, r, q⟩ := k
    simp only at *
    subst h4 hm hr0 hq0
    rfl
  · have n4 : ¬ k.s = 4 := by omega
    rw [if_neg (by omega), e2]
    simp only
    rw [if_neg n4, if_neg n4]
    have e3 := M.rName_back k.m (([k.r] ++ (if k.s = 1 then M.var k.q else [])) ++ more) h.ml (.inr hm)
    rw [List.append_assoc, e3]
    simp only
    have hz : k.m ≠ M.zero8 := by have := M.right_some hm; simpa using this
    rw [if_neg hz]
    have e4 : M.rByte (([k.r] ++ (if k.s = 1 then M.var k.q else [])) ++ more) = .got k.r ((if k.s = 1 then M.var k.q else []) ++ more) := rfl
    rw [e4]
    simp only
    rw [if_neg (by omega)]
    rcases hs with ⟨h1, hq⟩ | ⟨h23, hq⟩
    · rw [if_pos h1, if_pos h1, M.rNum_var k.q 4294967295 more h.q0 (by have := h.q1; omega) (by have := h.q1; omega)]
      simp only
      rw [if_neg (by omega)]
      obtain ⟨s, c, m, r, q⟩ := k
      simp only at *
      subst h1
      rfl
    · have n1 : ¬ k.s = 1 := by omega
      rw [if_neg n1, if_neg n1]
      obtain ⟨s, c, m, r, q⟩ := k
      simp only at *
      subst hq
      rfl
end Go.Proofs.Ytgggjhbijnndhaa
namespace Go.Proofs.Ytgggjhbijnndhaa
namespace M




/-! Strings. -/
end M
end Go.Proofs.Ytgggjhbijnndhaa
namespace Go.Proofs.Ytgggjhbijnndhaa.M


end Go.Proofs.Ytgggjhbijnndhaa.M
namespace Go.Proofs.Ytgggjhbijnndhaa

end Go.Proofs.Ytgggjhbijnndhaa
namespace Go.Proofs.Ytgggjhbijnndhaa

/-- A value: what its fields hold. -/
structure Vl where
  n : Int
  t : List Int
deriving DecidableEq
structure Vl.Ok (v : Vl) : Prop where
  tl : v.t.length = 8
  tb : M.Bytes v.t
  n0 : 0 ≤ v.n
  n1 : v.n < 18446744073709551616
/-- An atom: its key and its value. -/
structure Am where
  k : Ky
  v : Vl
deriving DecidableEq
structure Am.Ok (a : Am) : Prop where
  k : a.k.Ok
  v : a.v.Ok
def vzero : Vl := ⟨0, M.zero8⟩
def azero : Am := ⟨kzero, vzero⟩
theorem vzero_ok : vzero.Ok := ⟨rfl, zero8_bytes, by decide, by decide⟩
theorem azero_ok : azero.Ok := ⟨kzero_ok, vzero_ok⟩
/-- Which value is over the other. -/
def over (x y : Vl) : Bool := if x.n = y.n then decide (M.num y.t ≤ M.num x.t) else decide (y.n < x.n)
def more (x y : Vl) : Vl := if over x y = true then x else y
theorem more_ok {x y : Vl} (hx : x.Ok) (hy : y.Ok) : (more x y).Ok := by unfold more; split <;> assumption
theorem over_self (x : Vl) : over x x = true := by unfold over; simp
theorem over_total (x y : Vl) (h : over x y = false) : over y x = true := by
  unfold over at *
  by_cases e : x.n = y.n
  · rw [if_pos e] at h; rw [if_pos e.symm]
    have := of_decide_eq_false h
    exact decide_eq_true (by omega)
  · rw [if_neg e] at h; rw [if_neg (fun q => e q.symm)]
    have := of_decide_eq_false h
    exact decide_eq_true (by omega)
theorem over_trans {x y z : Vl} (h : over x y = true) (k : over y z = true) : over x z = true := by
  unfold over at *
  by_cases e : x.n = y.n
  · rw [if_pos e] at h
    have h := of_decide_eq_true h
    by_cases f : y.n = z.n
    · rw [if_pos f] at k; rw [if_pos (e.trans f)]
      have k := of_decide_eq_true k
      exact decide_eq_true (by omega)
    · rw [if_neg f] at k; rw [if_neg (by omega)]
      have k := of_decide_eq_true k
      exact decide_eq_true (by omega)
  · rw [if_neg e] at h
    have h := of_decide_eq_true h
    by_cases f : y.n = z.n
    · rw [if_neg (by omega)]
      exact decide_eq_true (by omega)
    · rw [if_neg f] at k
      have k := of_decide_eq_true k
      rw [if_neg (by omega)]
      exact decide_eq_true (by omega)
theorem over_anti {x y : Vl} (hx : x.Ok) (hy : y.Ok) (h : over x y = true) (k : over y x = true) : x = y := by
  unfold over at *
  by_cases e : x.n = y.n
  · rw [if_pos e] at h; rw [if_pos e.symm] at k
    have h := of_decide_eq_true h
    have k := of_decide_eq_true k
    have ht := M.num_inj x.t y.t hx.tb hy.tb (by rw [hx.tl, hy.tl]) (by omega)
    obtain ⟨n, t⟩ := x
    obtain ⟨n', t'⟩ := y
    simp only at e ht
    rw [e, ht]
  · rw [if_neg e] at h; rw [if_neg (fun q => e q.symm)] at k
    have h := of_decide_eq_true h
    have k := of_decide_eq_true k
    omega
theorem over_both {x y : Vl} (hx : x.Ok) (hy : y.Ok) : (over x y && over y x) = decide (x = y) := by
  by_cases e : x = y
  · subst e; rw [over_self]; simp
  · rw [decide_eq_false e]
    cases h : over x y with
    | false => rfl
    | true =>
      cases k : over y x with
      | false => rfl
      | true => exact absurd (over_anti hx hy h k) e
theorem over_more_l (x y : Vl) : over (more x y) x = true := by
  unfold more; split
  · exact over_self x
  · next h => exact over_total x y (by simpa using h)
theorem over_more_r (x y : Vl) : over (more x y) y = true := by
  unfold more; split
  · next h => exact h
  · exact over_self y
theorem more_one (x y : Vl) : more x y = x ∨ more x y = y := by unfold more; split <;> simp
/-- A stamp: a number above a replica. -/
def stampB (x : Int) : Bool := decide (x < 1099511627776) && (decide (0 < x / 256 % 4294967296) && decide (x % 256 < 16))
def betweenB (lo hi : Int) (v : Vl) : Bool := (decide (lo ≤ v.n) && decide (v.n ≤ hi)) && !(v.t != M.zero8)
def lineB (v : Vl) : Bool := stampB v.n && (M.rightB v.t || !(v.t != M.zero8))
/-- Which values there are for a sort. -/
def valB (s : Int) (v : Vl) : Bool := if s = 1 then betweenB 1 2 v else if s = 4 then lineB v else betweenB 1 4294967295 v
def Am.right (a : Am) : Bool := a.k.right && valB a.k.s a.v
theorem right_sort {k : Ky} (h : k.right = true) : k.s = 1 ∨ k.s = 2 ∨ k.s = 3 ∨ k.s = 4 := by
  rcases right_cases h with ⟨h, _⟩ | ⟨h, _⟩
  · omega
  · omega
/-- A value as bytes, behind a key of its sort. -/
def venc (s : Int) (v : Vl) : List Int := if s = 1 then [v.n] else if s = 4 then M.var v.n ++ (((M.text v.t).length : Int) :: M.text v.t) else M.var v.n
def aenc (a : Am) : List Int := kenc a.k ++ venc a.k.s a.v
/-- What Bytes answers. -/
def abytes (a : Am) : List Int := if a.right = true then aenc a else []
/-- What the reads of a value come to. -/
def rVal (s : Int) (l : List Int) : M.Got Vl :=
  if s = 1 then
    match M.rByte l with
    | .bad e => .bad e
    | .got c r => if c = 1 ∨ c = 2 then .got ⟨c, M.zero8⟩ r else .bad 3
  else if s = 4 then
    match M.rNum 1099511627775 l with
    | .bad e => .bad e
    | .got x r =>
      if 16 ≤ x % 256 then .bad 2 else
      if x / 256 = 0 then .bad 3 else
      match M.rName r with
      | .bad e => .bad e
      | .got m r' => .got ⟨x, m⟩ r'
  else
    match M.rNum 4294967295 l with
    | .bad e => .bad e
    | .got x r => if x = 0 then .bad 3 else .got ⟨x, M.zero8⟩ r
def rAtom (l : List Int) : M.Got Am :=
  match rKey l with
  | .bad e => .bad e
  | .got k r =>
    match rVal k.s r with
    | .bad e => .bad e
    | .got v r' => .got ⟨k, v⟩ r'
theorem stamp_parts {x : Int} (h0 : 0 ≤ x) (h : stampB x = true) : x ≤ 1099511627775 ∧ ¬ 16 ≤ x % 256 ∧ ¬ x / 256 = 0 := by
  unfold stampB at h
  simp only [Bool.and_eq_true, decide_eq_true_eq] at h
  omega
theorem between_parts {lo hi : Int} {v : Vl} (h : betweenB lo hi v = true) : lo ≤ v.n ∧ v.n ≤ hi ∧ v.t = M.zero8 := by
  unfold betweenB at h
  simp at h
  exact ⟨h.1.1, h.1.2, h.2⟩
theorem rVal_back {s : Int} {v : Vl} (h : v.Ok) (hr : valB s v = true) (more : List Int) : rVal s (venc s v ++ more) = .got v more := by
  unfold rVal venc
  unfold valB at hr
  have n0 := h.n0
  have n1 := h.n1
  by_cases h1 : s = 1
  · rw [if_pos h1, if_pos h1]
    rw [if_pos h1] at hr
    obtain ⟨a, b, c⟩ := between_parts hr
    have e : M.rByte ([v.n] ++ more) = .got v.n more := rfl
    rw [e]
    simp only
    rw [if_pos (by omega), ← c]
  · rw [if_neg h1, if_neg h1]
    rw [if_neg h1] at hr
    by_cases h4 : s = 4
    · rw [if_pos h4, if_pos h4]
      rw [if_pos h4] at hr
      unfold lineB at hr
      rw [Bool.and_eq_true] at hr
      obtain ⟨a, b, c⟩ := stamp_parts n0 hr.1
      rw [List.append_assoc, M.rNum_var v.n 1099511627775 _ n0 n1 a]
      simp only
      rw [if_neg b, if_neg c, M.rName_back v.t more h.tl (by have q := hr.2; simp at q; exact q.symm)]
    · rw [if_neg h4, if_neg h4]
      rw [if_neg h4] at hr
      obtain ⟨a, b, c⟩ := between_parts hr
      rw [M.rNum_var v.n 4294967295 more n0 n1 b]
      simp only
      rw [if_neg (by omega), ← c]
theorem rAtom_back {a : Am} (h : a.Ok) (hr : a.right = true) (more : List Int) : rAtom (aenc a ++ more) = .got a more := by
  unfold Am.right at hr
  rw [Bool.and_eq_true] at hr
  unfold rAtom aenc
  rw [List.append_assoc, rKey_back h.k hr.1]
  simp only
  rw [rVal_back h.v hr.2]
theorem rKey_sort {l r : List Int} {k : Ky} (h : rKey l = .got k r) : k.s = 1 ∨ k.s = 2 ∨ k.s = 3 ∨ k.s = 4 := by
  unfold rKey at h
  split at h
  · cases h
  · split at h
    · cases h
    · next s l1 _ hs =>
      split at h
      · cases h
      · split at h
        · cases h; right; right; right; rfl
        · next h4 =>
          split at h
          · cases h
          · split at h
            · cases h
            · split at h
              · cases h
              · split at h
                · cases h
                · split at h
                  · split at h
                    · cases h
                    · split at h
                      · cases h
                      · cases h; left; rfl
                  · cases h; simp only; omega
theorem kenc_bytes {k : Ky} (h : k.Ok) : M.Bytes (kenc k) := by
  have q := h.s0; have q := h.s1; have q := h.r0; have q := h.r1
  have one : ∀ x : Int, 0 ≤ x → x < 256 → M.Bytes [x] := fun x a b y hy => by obtain rfl := List.mem_singleton.1 hy; exact ⟨a, b⟩
  unfold kenc
  refine (one _ h.s0 h.s1).app ((M.var_bytes _ h.c0).app ?_)
  split
  · intro x hx; cases hx
  · have ht := M.text_len k.m
    have hm := h.ml
    refine M.Bytes.app (l := ((M.text k.m).length : Int) :: M.text k.m) ?_ ((one _ h.r0 h.r1).app ?_)
    · intro y hy
      rcases List.mem_cons.1 hy with rfl | hy
      · omega
      · exact M.text_bytes h.mb y hy
    · split
      · exact M.var_bytes _ h.q0
      · intro x hx; cases hx
theorem kenc_len {k : Ky} (h : k.Ok) : (kenc k).length ≤ 31 := by
  have a := M.var_ten k.c h.c0 (by have := h.c1; omega)
  have b := M.var_ten k.q h.q0 (by have := h.q1; omega)
  have ht := M.text_len k.m
  have hm := h.ml
  unfold kenc
  split
  · simp; omega
  · split <;> simp <;> omega
theorem venc_len {s : Int} {v : Vl} (h : v.Ok) : (venc s v).length ≤ 19 := by
  have a := M.var_ten v.n h.n0 h.n1
  have ht := M.text_len v.t
  have hm := h.tl
  unfold venc
  split
  · simp
  · split
    · simp; omega
    · omega
theorem aenc_len {a : Am} (h : a.Ok) : (aenc a).length ≤ 50 := by
  have := kenc_len h.k
  have := venc_len (s := a.k.s) h.v
  unfold aenc
  rw [List.length_append]; omega
theorem abytes_len {a : Am} (h : a.Ok) : (abytes a).length ≤ 50 := by
  unfold abytes; split
  · exact aenc_len h
  · simp
/-- Stamp and Unstamp. -/
def stamp (n r : Int) : Int := n * 256 + r
theorem stamp_hi {n r : Int} (h0 : 0 ≤ n) (h1 : n < 4294967296) (h2 : 0 ≤ r) (h3 : r < 256) : stamp n r / 256 % 4294967296 = n := by unfold stamp; omega
theorem stamp_lo {n r : Int} (h2 : 0 ≤ r) (h3 : r < 256) : stamp n r % 256 = r := by unfold stamp; omega
theorem stamp_back {x : Int} (h0 : 0 ≤ x) : (stamp (x / 256 % 4294967296) (x % 256) = x) ↔ x < 1099511627776 := by unfold stamp; omega
end Go.Proofs.Ytgggjhbijnndhaa
