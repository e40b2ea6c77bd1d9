/- The steps of a region that draws its order, in short words. Numbers as bytes, and the numbers that bytes are. Names as lists of numbers: no program in this text. What is written and read, as lists of numbers: no program in this text. Keys as numbers: their words, order, validity and encoding; no program in this text. Names as lists of numbers: no program in this text. What is written and read, as lists of numbers: no program in this text. Keys as numbers: their words, order, validity and encoding; no program in this text. Atoms as numbers: validity, stamps, the order of values, encoding; no program in this text. -/
import Derived.Deep.RegionHeld3
import Derived.WalkKit
import Derived.Laws.BytesArg
import Derived.Laws.Externs
namespace Go.Proofs.YtnpbmihbmilkbaaGreat
section
variable {P : Program} {md : Region.Mode} {l : List Oper} {Q : Exit → Act → World → Prop} {S : World → Prop} {fuel : Nat} {listed : Array Bool} {a : Act} {w : World}
theorem tkv (i : Nat) (v : Value) {oi : Oper} (hi : l[i]? = some oi) (hv : ∀ W, S W → (execOp a.eval oi).run P W = .ok (.value v) W) (hS : S w) (h : wpAnyH P md l.toArray (NoPanic Q) S fuel (listed.setIfInBounds i true) (a.put oi.dst v) w)
    (hs : Region.noSelect l.toArray = true := by kernel_rfl) (hf : Region.free md l.toArray listed i = true := by kernel_rfl) (hr : (Region.ready md l.toArray listed).contains i = true := by kernel_rfl) (hw : Region.wanted oi (yielded l.toArray a.tmps) = true := by rfl) :
    wpAnyH P md l.toArray (NoPanic Q) S (fuel + 1) listed a w := wpAnyH_take (by simpa using hi) hs hf hr (fun _ _ _ h => h) (Or.inl ⟨hw, hv⟩) hS h
theorem tkm (i : Nat) {v : Value} {oi : Oper} (hi : l[i]? = some oi) (hS : S w) (h : wpAnyH P md l.toArray (NoPanic Q) S fuel (listed.setIfInBounds i true) (a.put oi.dst v) w) (hv : ∀ W, S W → (execOp a.eval oi).run P W = .ok (.value v) W := by intro W hW; (go_simp; try with_reducible rfl))
    (hs : Region.noSelect l.toArray = true := by kernel_rfl) (hf : Region.free md l.toArray listed i = true := by kernel_rfl) (hr : (Region.ready md l.toArray listed).contains i = true := by kernel_rfl) (hw : Region.wanted oi (yielded l.toArray a.tmps) = true := by rfl) :
    wpAnyH P md l.toArray (NoPanic Q) S (fuel + 1) listed a w := wpAnyH_take (by simpa using hi) hs hf hr (fun _ _ _ h => h) (Or.inl ⟨hw, hv⟩) hS h
theorem rdy {ops : Array Oper} {Q : Exit → Act → World → Prop} (rs : List Nat) (h : AllReadyH P md ops Q S fuel listed a w rs) (hr : Region.ready md ops listed = rs := by kernel_rfl) (hne : rs ≠ [] := by simp) : wpAnyH P md ops Q S (fuel + 1) listed a w := wpAnyH_ready hr hne h
theorem tky (i : Nat) (v : Value) {oi : Oper} (hi : l[i]? = some oi) (hv : YieldsIf P l.toArray S oi v a) (hS : S w) (h : wpAnyH P md l.toArray (NoPanic Q) S fuel (listed.setIfInBounds i true) (a.put oi.dst v) w)
    (hs : Region.noSelect l.toArray = true := by kernel_rfl) (hf : Region.free md l.toArray listed i = true := by kernel_rfl) (hr : (Region.ready md l.toArray listed).contains i = true := by kernel_rfl) :
    wpAnyH P md l.toArray (NoPanic Q) S (fuel + 1) listed a w := wpAnyH_take (by simpa using hi) hs hf hr (fun _ _ _ h => h) hv hS h
theorem tks (i : Nat) {oi : Oper} (hi : l[i]? = some oi) (hS : S w) (h : wpAnyH P md l.toArray (NoPanic Q) S fuel (listed.setIfInBounds i true) (a.put oi.dst undef) w)
    (hs : Region.noSelect l.toArray = true := by kernel_rfl) (hf : Region.free md l.toArray listed i = true := by kernel_rfl) (hr : (Region.ready md l.toArray listed).contains i = true := by kernel_rfl) (hw : Region.wanted oi (yielded l.toArray a.tmps) = false := by rfl) :
    wpAnyH P md l.toArray (NoPanic Q) S (fuel + 1) listed a w := wpAnyH_take (by simpa using hi) hs hf hr (fun _ _ _ h => h) (Or.inr ⟨hw, rfl⟩) hS h
end
theorem arR {l : List Oper} {i : Nat} {o : Oper} (h : l[i]? = some o) : l.toArray[i]? = some o := by simpa using h
theorem stA {α : Type} {l : List α} {i : Nat} {x : α} : l.toArray.setIfInBounds i x = (l.set i x).toArray := List.setIfInBounds_toArray _ _ _
theorem stZ {α : Type} (x y : α) (l : List α) : (x :: l).set 0 y = y :: l := rfl
theorem stS {α : Type} (x y : α) (l : List α) (n : Nat) : (x :: l).set (n + 1) y = x :: l.set n y := rfl
end Go.Proofs.YtnpbmihbmilkbaaGreat
namespace Go.Proofs.YtnpbmihbmilkbaaGreat.M
theorem pow_pos (k : Nat) : (0 : Int) < 2 ^ k := by have := Int.pow_pos (n := (2 : Int)) (m := k) (by omega); exact this
theorem pow_add' (a b : Nat) : (2 : Int) ^ (a + b) = 2 ^ a * 2 ^ b := Int.pow_add ..
theorem pow8 (k : Nat) : (2 : Int) ^ (8 * (k + 1)) = 2 ^ (8 * k) * 256 := by rw [Nat.mul_succ, pow_add']; rfl
theorem pow_le {a b : Nat} (h : a ≤ b) : (2 : Int) ^ a ≤ 2 ^ b := by
  obtain ⟨c, rfl⟩ := Nat.exists_eq_add_of_le h
  rw [pow_add']
  have h1 := pow_pos a
  have h2 := pow_pos c
  have := Int.mul_le_mul_of_nonneg_left (show (1 : Int) ≤ 2 ^ c by omega) (show (0 : Int) ≤ 2 ^ a by omega)
  omega
def Bytes (l : List Int) : Prop := ∀ x ∈ l, 0 ≤ x ∧ x < 256
theorem Bytes.at_ {l : List Int} (h : Bytes l) (k : Nat) (hk : k < l.length) : 0 ≤ l[k] ∧ l[k] < 256 := h _ (List.getElem_mem hk)
theorem Bytes.app {l m : List Int} (h : Bytes l) (h2 : Bytes m) : Bytes (l ++ m) := fun x hx => (List.mem_append.1 hx).elim (h x) (h2 x)
theorem Bytes.take {l : List Int} (h : Bytes l) (k : Nat) : Bytes (l.take k) := fun x hx => h x (List.mem_of_mem_take hx)
theorem Bytes.drop {l : List Int} (h : Bytes l) (k : Nat) : Bytes (l.drop k) := fun x hx => h x (List.mem_of_mem_drop hx)
/-- The number whose bytes these are, the least significant one first. -/
def get : List Int → Int
  | [] => 0
  | c :: r => c + 256 * get r
theorem get_range (l : List Int) (h : Bytes l) : 0 ≤ get l ∧ get l < 2 ^ (8 * l.length) := by
  induction l with
  | nil => simp [get]
  | cons c r ih =>
    have h1 := h c (List.mem_cons_self ..)
    have h2 := ih (fun x hx => h x (List.mem_cons_of_mem _ hx))
    rw [get, List.length_cons, pow8]
    omega
theorem get_snoc (l : List Int) (c : Int) : get (l ++ [c]) = get l + c * 2 ^ (8 * l.length) := by
  induction l with
  | nil => simp [get]
  | cons d r ih =>
    rw [List.cons_append, get, ih, get, List.length_cons, pow8, Int.mul_add, Int.add_assoc, ← Int.mul_assoc, Int.mul_comm (2 ^ (8 * r.length)) 256, ← Int.mul_assoc, Int.mul_comm 256 c]
theorem get_take (l : List Int) (k : Nat) (hk : k < l.length) : get (l.take (k + 1)) = get (l.take k) + l[k] * 2 ^ (8 * k) := by
  rw [List.take_succ_eq_append_getElem hk, get_snoc, List.length_take, Nat.min_eq_left (by omega)]
theorem get_drop (l : List Int) (k : Nat) (hk : k < l.length) : get (l.drop k) = 256 * get (l.drop (k + 1)) + l[k] := by
  rw [List.drop_eq_getElem_cons hk, get]; omega
theorem get_small (l : List Int) (h : Bytes l) (hl : l.length ≤ 8) : 0 ≤ get l ∧ get l < 18446744073709551616 := by
  have h1 := get_range l h
  have h2 := pow_le (show 8 * l.length ≤ 64 by omega)
  have h3 : (2 : Int) ^ 64 = 18446744073709551616 := by decide
  omega
/-- The lowest n bytes of x. -/
def put (x : Int) (n : Nat) : List Int := (List.range n).map fun i => x / 2 ^ (8 * i) % 256
theorem put_len (x : Int) (n : Nat) : (put x n).length = n := by simp [put]
/-- The varint. -/
def varN (x : Nat) : List Int := if x < 128 then [(x : Int)] else ((128 + x % 128 : Nat) : Int) :: varN (x / 128)
termination_by x
decreasing_by omega
def var (x : Int) : List Int := varN x.toNat
theorem var_lt (x : Int) (h0 : 0 ≤ x) (h : x < 128) : var x = [x] := by
  rw [var, varN, if_pos (by omega)]; congr 1; omega
theorem var_ge (x : Int) (h : 128 ≤ x) : var x = (128 + x % 128) :: var (x / 128) := by
  rw [var, varN, if_neg (by omega), var, show x.toNat / 128 = (x / 128).toNat by omega]; congr 1; omega
theorem var_ind {P : Int → Prop} (h1 : ∀ x, 0 ≤ x → x < 128 → P x) (h2 : ∀ x, 128 ≤ x → P (x / 128) → P x) : ∀ x, 0 ≤ x → P x := by
  have key : ∀ n : Nat, ∀ x : Int, 0 ≤ x → x.toNat = n → P x := by
    intro n
    induction n using Nat.strongRecOn with
    | ind n ih =>
      intro x h0 hx
      by_cases h : x < 128
      · exact h1 x h0 h
      · exact h2 x (by omega) (ih (x / 128).toNat (by omega) _ (by omega) rfl)
  exact fun x h0 => key _ x h0 rfl
theorem var_bytes (x : Int) (h0 : 0 ≤ x) : Bytes (var x) := by
  refine var_ind (P := fun x => Bytes (var x)) ?_ ?_ x h0
  · intro x h0 h
    rw [var_lt x h0 h]
    intro y hy
    obtain rfl := List.mem_singleton.1 hy
    omega
  · intro x h ih
    rw [var_ge x h]
    intro y hy
    rcases List.mem_cons.1 hy with rfl | hy
    · omega
    · exact ih y hy
theorem var_pos (x : Int) (h0 : 0 ≤ x) : 0 < (var x).length := by
  by_cases h : x < 128
  · rw [var_lt x h0 h]; simp
  · rw [var_ge x (by omega)]; simp
theorem var_le (n : Nat) : ∀ x : Int, 0 ≤ x → x < 128 ^ (n + 1) → (var x).length ≤ n + 1 := by
  induction n with
  | zero => intro x h0 h; rw [var_lt x h0 (by simpa using h)]; simp
  | succ n ih =>
    intro x h0 h
    by_cases hx : x < 128
    · rw [var_lt x h0 hx]; simp
    · rw [var_ge x (by omega), List.length_cons]
      rw [Int.pow_succ] at h
      have := ih (x / 128) (by omega) (by omega)
      omega
theorem var_ten (x : Int) (h0 : 0 ≤ x) (h1 : x < 18446744073709551616) : (var x).length ≤ 10 :=
  var_le 9 x h0 (Int.lt_trans h1 (by decide))
theorem div_add (x : Int) (a b : Nat) : x / 2 ^ a / 2 ^ b = x / 2 ^ (a + b) := by
  rw [pow_add', Int.ediv_ediv_of_nonneg (by have := pow_pos a; omega)]
theorem var_at (x : Int) (h0 : 0 ≤ x) : ∀ i, (h : i < (var x).length) → (var x)[i] = x / 2 ^ (7 * i) % 128 + if i + 1 < (var x).length then 128 else 0 := by
  refine var_ind (P := fun x => ∀ i, (h : i < (var x).length) → (var x)[i] = x / 2 ^ (7 * i) % 128 + if i + 1 < (var x).length then 128 else 0) ?_ ?_ x h0
  · intro x h0 h i hi
    simp only [var_lt x h0 h, List.length_singleton] at hi ⊢
    obtain rfl : i = 0 := by omega
    simp
    omega
  · intro x h ih i hi
    simp only [var_ge x h, List.length_cons] at hi ⊢
    have hp := var_pos (x / 128) (by omega)
    cases i with
    | zero => rw [if_pos (by omega)]; simp; omega
    | succ i =>
      rw [List.getElem_cons_succ, ih i (by omega)]
      have e : x / 128 / 2 ^ (7 * i) = x / 2 ^ (7 * (i + 1)) := by
        have := div_add x 7 (7 * i)
        rw [show (2 : Int) ^ 7 = 128 from rfl] at this
        rw [this, Nat.mul_succ, Nat.add_comm]
      rw [e]
      by_cases hl : i + 1 < (var (x / 128)).length
      · rw [if_pos hl, if_pos (by omega)]
      · rw [if_neg hl, if_neg (by omega)]
/-- How many groups are still to come. -/
def left (y : Int) : Nat := if y = 0 then 0 else (var y).length
theorem var_left (x : Int) (h0 : 0 ≤ x) : (var x).length = 1 + left (x / 128) := by
  unfold left
  by_cases h : x < 128
  · rw [var_lt x h0 h, if_pos (by omega)]; rfl
  · rw [var_ge x (by omega), if_neg (by omega), List.length_cons]; omega
theorem left_step (y : Int) (h : 0 < y) : left y = 1 + left (y / 128) := by
  rw [← var_left y (by omega)]; unfold left; rw [if_neg (by omega)]
/-- What Unvar answers for the bytes l from place k on, with the number so far. -/
def unv : List Int → Nat → Int → Int × Int × Int
  | [], _, _ => (0, 0, 4)
  | c :: r, k, x =>
    if k = 9 ∧ 1 < c then (0, 0, 15)
    else if 0 < k ∧ c = 0 then (0, 0, 3)
    else if c < 128 then (x + c * 2 ^ (7 * k), (k : Int) + 1, 0)
    else unv r (k + 1) (x + c % 128 * 2 ^ (7 * k))
end Go.Proofs.YtnpbmihbmilkbaaGreat.M
namespace Go.Proofs.YtnpbmihbmilkbaaGreat
namespace M
theorem Bytes.tail {x : Int} {l : List Int} (h : Bytes (x :: l)) : Bytes l := fun y hy => h y (List.mem_cons_of_mem _ hy)
theorem Bytes.head {x : Int} {l : List Int} (h : Bytes (x :: l)) : 0 ≤ x ∧ x < 256 := h x (List.mem_cons_self ..)
theorem Bytes.getD {l : List Int} (h : Bytes l) (i : Nat) : 0 ≤ l.getD i 0 ∧ l.getD i 0 < 256 := by
  rw [List.getD_eq_getElem?_getD]
  by_cases hi : i < l.length
  · rw [List.getElem?_eq_getElem hi]; exact h.at_ i hi
  · rw [List.getElem?_eq_none (by omega)]; simp
def letter (c : Int) : Bool := decide (97 ≤ c) && decide (c ≤ 122)
def digit (c : Int) : Bool := decide (48 ≤ c) && decide (c ≤ 57)
def other (c : Int) : Bool := letter c || digit c || (c == 45)
def isN (l : List Int) : Bool := decide (1 ≤ l.length) && decide (l.length ≤ 8) && letter (l.headD 0) && l.all other
def good (i : Nat) (c : Int) : Bool := letter c || ((digit c || (c == 45)) && decide (0 < i))
def everyFrom : Nat → List Int → Bool
  | _, [] => true
  | i, c :: l => good i c && everyFrom (i + 1) l
def every (l : List Int) : Bool := everyFrom 0 l
def text (l : List Int) : List Int := l.takeWhile (· != 0)
def padTo : Nat → List Int → List Int
  | 0, _ => []
  | k + 1, [] => 0 :: padTo k []
  | k + 1, c :: l => c :: padTo k l
def pad (t : List Int) : List Int := padTo 8 t
def zero8 : List Int := [0, 0, 0, 0, 0, 0, 0, 0]
def rightB (n : List Int) : Bool := n != zero8 && (pad (text n) == n && every (text n))
def refRightB (n : List Int) : Bool := isN (text n) && pad (text n) == n
theorem padTo_len : ∀ k t, (padTo k t).length = k
  | 0, _ => rfl
  | k + 1, [] => by unfold padTo; rw [List.length_cons, padTo_len]
  | k + 1, _ :: l => by unfold padTo; rw [List.length_cons, padTo_len]
theorem pad_len (t : List Int) : (pad t).length = 8 := padTo_len 8 t
theorem padTo_get : ∀ k t (i : Nat), i < k → (padTo k t)[i]? = some (t.getD i 0)
  | 0, _, i, h => by omega
  | k + 1, [], 0, _ => rfl
  | k + 1, [], i + 1, h => by
    unfold padTo
    rw [List.getElem?_cons_succ, padTo_get k [] i (by omega)]
    rfl
  | k + 1, c :: l, 0, _ => rfl
  | k + 1, c :: l, i + 1, h => by
    unfold padTo
    rw [List.getElem?_cons_succ, padTo_get k l i (by omega)]
    rfl
theorem pad_get (t : List Int) (i : Nat) (h : i < 8) : (pad t)[i]? = some (t.getD i 0) := padTo_get 8 t i h
theorem text_len (l : List Int) : (text l).length ≤ l.length := (List.takeWhile_prefix _).length_le
theorem text_bytes {l : List Int} (h : Bytes l) : Bytes (text l) := fun x hx => h x ((List.takeWhile_prefix _).subset hx)
theorem text_cons (c : Int) (l : List Int) : text (c :: l) = if c = 0 then [] else c :: text l := by
  unfold text
  rw [List.takeWhile_cons]
  by_cases h : c = 0
  · simp [h]
  · simp [h]
theorem everyFrom_pos : ∀ (l : List Int) (i : Nat), 0 < i → everyFrom i l = l.all other
  | [], _, _ => rfl
  | c :: l, i, h => by
    unfold everyFrom
    rw [everyFrom_pos l (i + 1) (by omega), List.all_cons]
    congr 1
    unfold good other
    simp [h, Bool.or_assoc]
theorem every_is (c : Int) (l : List Int) : every (c :: l) = (letter c && (c :: l).all other) := by
  unfold every everyFrom
  rw [everyFrom_pos l 1 (by omega), List.all_cons]
  have : good 0 c = letter c := by unfold good; simp
  rw [this]
  cases hl : letter c
  · rfl
  · have : other c = true := by unfold other; simp [hl]
    simp [this]
/-- A text of 1 to 8 bytes: what 'every' says is what the definition says. -/
theorem isN_every (t : List Int) (h8 : t.length ≤ 8) : isN t = (!t.isEmpty && every t) := by
  cases t with
  | nil => rfl
  | cons c l =>
    rw [every_is]
    unfold isN
    have e1 : decide (1 ≤ (c :: l).length) = true := by simp
    have e2 : decide ((c :: l).length ≤ 8) = true := by simpa using h8
    rw [e1, e2]
    rfl
theorem right_eq (n : List Int) (h : n.length = 8) : rightB n = refRightB n := by
  unfold rightB refRightB
  rw [isN_every _ (by have := text_len n; omega)]
  by_cases hp : pad (text n) = n
  · have e1 : (pad (text n) == n) = true := by simpa using hp
    rw [e1]
    have e2 : (n != zero8) = !(text n).isEmpty := by
      cases ht : text n with
      | nil => rw [ht] at hp; rw [← hp]; rfl
      | cons c l =>
        have : n ≠ zero8 := by
          rintro rfl
          have : text zero8 = [] := by decide
          rw [this] at ht; cases ht
        simpa using this
    rw [e2]
    simp
  · have e1 : (pad (text n) == n) = false := by simpa using hp
    rw [e1]
    simp
def num (l : List Int) : Int := l.foldl (fun x c => 256 * x + c) 0
theorem num_from : ∀ (l : List Int) (x : Int), l.foldl (fun x c => 256 * x + c) x = x * 256 ^ l.length + num l
  | [], x => by simp [num]
  | c :: l, x => by
    unfold num
    rw [List.foldl_cons, List.foldl_cons, num_from l, num_from l (256 * 0 + c), List.length_cons, Int.pow_succ]
    have : (256 * x + c) * 256 ^ l.length = x * (256 ^ l.length * 256) + c * 256 ^ l.length := by
      rw [Int.add_mul, Int.mul_comm 256 x, Int.mul_assoc, Int.mul_comm 256 (256 ^ l.length)]
    rw [this, Int.mul_zero, Int.zero_add]
    omega
theorem num_cons (c : Int) (l : List Int) : num (c :: l) = c * 256 ^ l.length + num l := by
  unfold num
  rw [List.foldl_cons, num_from l, Int.mul_zero, Int.zero_add]
  rfl
theorem num_snoc (l : List Int) (c : Int) : num (l ++ [c]) = 256 * num l + c := by
  unfold num
  rw [List.foldl_append]
  rfl
theorem num_range : ∀ (l : List Int), Bytes l → 0 ≤ num l ∧ num l < 256 ^ l.length
  | [], _ => by simp [num]
  | c :: l, h => by
    have hc := h.head
    have ih := num_range l h.tail
    rw [num_cons, List.length_cons, Int.pow_succ]
    have h1 : 0 ≤ c * 256 ^ l.length := Int.mul_nonneg hc.1 (Int.le_trans ih.1 (Int.le_of_lt ih.2))
    have h2 : c * 256 ^ l.length ≤ 255 * 256 ^ l.length := Int.mul_le_mul_of_nonneg_right (by omega) (Int.le_trans ih.1 (Int.le_of_lt ih.2))
    omega
theorem num_app : ∀ (p q : List Int), num (p ++ q) = num p * 256 ^ q.length + num q
  | p, q => by
    unfold num
    rw [List.foldl_append, num_from q]
    rfl
theorem num_lex (p r s : List Int) (x y : Int) (hr : Bytes r) (hs : Bytes s) (hl : r.length = s.length) (h : x < y) : num (p ++ x :: r) < num (p ++ y :: s) := by
  rw [num_app, num_app, num_cons, num_cons, List.length_cons, List.length_cons, hl]
  have h1 := num_range r hr
  have h2 := num_range s hs
  rw [hl] at h1
  have h3 : (x + 1) * 256 ^ s.length ≤ y * 256 ^ s.length := Int.mul_le_mul_of_nonneg_right (by omega) (by omega)
  rw [Int.add_mul, Int.one_mul] at h3
  omega
theorem num_inj : ∀ (l m : List Int), Bytes l → Bytes m → l.length = m.length → num l = num m → l = m
  | [], [], _, _, _, _ => rfl
  | [], _ :: _, _, _, h, _ => by cases h
  | _ :: _, [], _, _, h, _ => by cases h
  | x :: l, y :: m, hl, hm, h, e => by
    have h' : l.length = m.length := by simpa using h
    have hx : x = y := by
      rcases Int.lt_trichotomy x y with hlt | he | hgt
      · have := num_lex [] l m x y hl.tail hm.tail h' hlt
        simp only [List.nil_append] at this
        omega
      · exact he
      · have := num_lex [] m l y x hm.tail hl.tail h'.symm hgt
        simp only [List.nil_append] at this
        omega
    subst hx
    rw [num_cons, num_cons, h'] at e
    rw [num_inj l m hl.tail hm.tail h' (by omega)]
/-! Strings. -/
def nums (s : ByteArray) : List Int := s.data.toList.map fun b => (b.toNat : Int)
theorem byte_back {x : Int} (h : 0 ≤ x ∧ x < 256) : ((UInt8.ofNat x.toNat).toNat : Int) = x := by
  simp
  omega
theorem nums_str {l : List Int} (h : Bytes l) : nums (strOfNums l) = l := by
  unfold nums
  rw [strOfNums_data, List.map_map]
  conv => rhs; rw [← List.map_id l]
  apply List.map_congr_left
  intro x hx
  exact byte_back (h x hx)
end M
end Go.Proofs.YtnpbmihbmilkbaaGreat
namespace Go.Proofs.YtnpbmihbmilkbaaGreat.M
/-- What a read comes to: an error, or a value and the bytes behind it. -/
inductive Got (α : Type) where
  | bad (e : Int)
  | got (a : α) (rest : List Int)
def Got.map {α β : Type} (f : α → β) : Got α → Got β
  | .bad e => .bad e
  | .got a r => .got (f a) r
def rNum (most : Int) (l : List Int) : Got Int :=
  if (unv l 0 0).2.2 = 0 then (if most < (unv l 0 0).1 then .bad 2 else .got (unv l 0 0).1 (l.drop (unv l 0 0).2.1.toNat)) else .bad (unv l 0 0).2.2
def rByte : List Int → Got Int
  | [] => .bad 4
  | c :: r => .got c r
def rName : List Int → Got (List Int)
  | [] => .bad 4
  | c :: r => if 8 < c then .bad 3 else if (r.length : Int) < c then .bad 4 else if 0 < c ∧ isN (r.take c.toNat) = false then .bad 3 else .got (pad (r.take c.toNat)) (r.drop c.toNat)
def enc (d x c : Int) (nm b : List Int) : List Int :=
  if d = 0 then var x else if d = 1 then [c] else if d = 2 then ((text nm).length : Int) :: text nm else var b.length ++ b
end Go.Proofs.YtnpbmihbmilkbaaGreat.M
namespace Go.Proofs.YtnpbmihbmilkbaaGreat
/-- A key: what its fields hold. -/
structure Ky where
  s : Int
  c : Int
  m : List Int
  r : Int
  q : Int
deriving DecidableEq
structure Ky.Ok (k : Ky) : Prop where
  ml : k.m.length = 8
  mb : M.Bytes k.m
  s0 : 0 ≤ k.s
  s1 : k.s < 256
  c0 : 0 ≤ k.c
  c1 : k.c < 65536
  r0 : 0 ≤ k.r
  r1 : k.r < 256
  q0 : 0 ≤ k.q
  q1 : k.q < 4294967296
def kzero : Ky := ⟨0, 0, M.zero8, 0, 0⟩
theorem zero8_bytes : M.Bytes M.zero8 := fun x hx => by simp [M.zero8] at hx; omega
theorem kzero_ok : kzero.Ok := ⟨rfl, zero8_bytes, by decide, by decide, by decide, by decide, by decide, by decide, by decide, by decide⟩
/-- The words of a key. -/
def Ky.w0 (k : Ky) : Int := k.s * 65536 + k.c
def Ky.w1 (k : Ky) : Int := M.num k.m
def Ky.w2 (k : Ky) : Int := k.r * 4294967296 + k.q
def Ky.right (k : Ky) : Bool :=
  if k.s = 1 then M.rightB k.m && decide (k.r < 16) && decide (0 < k.q)
  else if k.s = 2 ∨ k.s = 3 then M.rightB k.m && decide (k.r < 16) && decide (k.q = 0)
  else if k.s = 4 then decide (k = ⟨4, k.c, M.zero8, 0, 0⟩)
  else false
theorem Ky.Ok.w0r {k : Ky} (h : k.Ok) : 0 ≤ k.w0 ∧ k.w0 < 16777216 := by
  have := h.s0; have := h.s1; have := h.c0; have := h.c1
  unfold Ky.w0; omega
theorem Ky.Ok.w1r {k : Ky} (h : k.Ok) : 0 ≤ k.w1 ∧ k.w1 < 18446744073709551616 := by
  have := M.num_range k.m h.mb
  rw [h.ml] at this
  exact this
theorem Ky.Ok.w2r {k : Ky} (h : k.Ok) : 0 ≤ k.w2 ∧ k.w2 < 1099511627776 := by
  have := h.r0; have := h.r1; have := h.q0; have := h.q1
  unfold Ky.w2; omega
theorem words_inj {a b : Ky} (ha : a.Ok) (hb : b.Ok) (h0 : a.w0 = b.w0) (h1 : a.w1 = b.w1) (h2 : a.w2 = b.w2) : a = b := by
  have hm := M.num_inj a.m b.m ha.mb hb.mb (by rw [ha.ml, hb.ml]) h1
  obtain ⟨s, c, m, r, q⟩ := a
  obtain ⟨s', c', m', r', q'⟩ := b
  have := ha.s0; have := ha.s1; have := ha.c0; have := ha.c1; have := ha.r0; have := ha.r1; have := ha.q0; have := ha.q1
  have := hb.s0; have := hb.s1; have := hb.c0; have := hb.c1; have := hb.r0; have := hb.r1; have := hb.q0; have := hb.q1
  simp only [Ky.w0, Ky.w2] at *
  obtain rfl : s = s' := by omega
  obtain rfl : c = c' := by omega
  obtain rfl : r = r' := by omega
  obtain rfl : q = q' := by omega
  obtain rfl := hm
  rfl
/-- Three words, compared lexicographically. -/
def less3 (a b c x y z : Int) : Bool := if a ≠ x then decide (a < x) else if b ≠ y then decide (b < y) else decide (c < z)
def Ky.less (a b : Ky) : Bool := less3 a.w0 a.w1 a.w2 b.w0 b.w1 b.w2
theorem right_cases {k : Ky} (h : k.right = true) : (k.s = 4 ∧ k.m = M.zero8 ∧ k.r = 0 ∧ k.q = 0) ∨ ((k.s = 1 ∧ 0 < k.q ∨ (k.s = 2 ∨ k.s = 3) ∧ k.q = 0) ∧ M.rightB k.m = true ∧ k.r < 16) := by
  unfold Ky.right at h
  split at h
  · right
    simp only [Bool.and_eq_true, decide_eq_true_eq] at h
    rename_i h1
    exact ⟨.inl ⟨h1, h.2⟩, h.1.1, h.1.2⟩
  · split at h
    · right
      simp only [Bool.and_eq_true, decide_eq_true_eq] at h
      rename_i h1
      exact ⟨.inr ⟨h1, h.2⟩, h.1.1, h.1.2⟩
    · split at h
      · left
        simp only [decide_eq_true_eq] at h
        rename_i h4
        obtain ⟨s, c, m, r, q⟩ := k
        simp only [Ky.mk.injEq] at h
        exact ⟨h4, h.2.2.1, h.2.2.2.1, h.2.2.2.2⟩
      · cases h
/-- A key as bytes. -/
def kenc (k : Ky) : List Int := [k.s] ++ (M.var k.c ++ (if k.s = 4 then [] else ((M.text k.m).length : Int) :: M.text k.m ++ ([k.r] ++ (if k.s = 1 then M.var k.q else []))))
/-- What the reads of a key come to. -/
def rKey (l : List Int) : M.Got Ky :=
  match M.rByte l with
  | .bad e => .bad e
  | .got s l1 =>
    if s < 1 ∨ 4 < s then .bad 3 else
    match M.rNum 65535 l1 with
    | .bad e => .bad e
    | .got c l2 =>
      if s = 4 then .got ⟨4, c, M.zero8, 0, 0⟩ l2 else
      match M.rName l2 with
      | .bad e => .bad e
      | .got m l3 =>
        if m = M.zero8 then .bad 3 else
        match M.rByte l3 with
        | .bad e => .bad e
        | .got r l4 =>
          if 16 ≤ r then .bad 2 else
          if s = 1 then
            match M.rNum 4294967295 l4 with
            | .bad e => .bad e
            | .got q l5 => if q = 0 then .bad 3 else .got ⟨1, c, m, r, q⟩ l5
          else .got ⟨s, c, m, r, 0⟩ l4
end Go.Proofs.YtnpbmihbmilkbaaGreat
namespace Go.Proofs.YtnpbmihbmilkbaaGreat
namespace M
/-! Strings. -/
end M
end Go.Proofs.YtnpbmihbmilkbaaGreat
namespace Go.Proofs.YtnpbmihbmilkbaaGreat.M
end Go.Proofs.YtnpbmihbmilkbaaGreat.M
namespace Go.Proofs.YtnpbmihbmilkbaaGreat
end Go.Proofs.YtnpbmihbmilkbaaGreat
namespace Go.Proofs.YtnpbmihbmilkbaaGreat
/-- A value: what its fields hold. -/
structure Vl where
  n : Int
  t : List Int
deriving DecidableEq
structure Vl.Ok (v : Vl) : Prop where
  tl : v.t.length = 8
  tb : M.Bytes v.t
  n0 : 0 ≤ v.n
  n1 : v.n < 18446744073709551616
/-- An atom: its key and its value. -/
structure Am where
  k : Ky
  v : Vl
deriving DecidableEq
structure Am.Ok (a : Am) : Prop where
  k : a.k.Ok
  v : a.v.Ok
def vzero : Vl := ⟨0, M.zero8⟩
def azero : Am := ⟨kzero, vzero⟩
theorem vzero_ok : vzero.Ok := ⟨rfl, zero8_bytes, by decide, by decide⟩
theorem azero_ok : azero.Ok := ⟨kzero_ok, vzero_ok⟩
/-- Which value is over the other. -/
def over (x y : Vl) : Bool := if x.n = y.n then decide (M.num y.t ≤ M.num x.t) else decide (y.n < x.n)
def more (x y : Vl) : Vl := if over x y = true then x else y
theorem more_ok {x y : Vl} (hx : x.Ok) (hy : y.Ok) : (more x y).Ok := by unfold more; split <;> assumption
theorem more_one (x y : Vl) : more x y = x ∨ more x y = y := by unfold more; split <;> simp
/-- A stamp: a number above a replica. -/
def stampB (x : Int) : Bool := decide (x < 1099511627776) && (decide (0 < x / 256 % 4294967296) && decide (x % 256 < 16))
def betweenB (lo hi : Int) (v : Vl) : Bool := (decide (lo ≤ v.n) && decide (v.n ≤ hi)) && !(v.t != M.zero8)
def lineB (v : Vl) : Bool := stampB v.n && (M.rightB v.t || !(v.t != M.zero8))
/-- Which values there are for a sort. -/
def valB (s : Int) (v : Vl) : Bool := if s = 1 then betweenB 1 2 v else if s = 4 then lineB v else betweenB 1 4294967295 v
def Am.right (a : Am) : Bool := a.k.right && valB a.k.s a.v
theorem right_sort {k : Ky} (h : k.right = true) : k.s = 1 ∨ k.s = 2 ∨ k.s = 3 ∨ k.s = 4 := by
  rcases right_cases h with ⟨h, _⟩ | ⟨h, _⟩
  · omega
  · omega
/-- A value as bytes, behind a key of its sort. -/
def venc (s : Int) (v : Vl) : List Int := if s = 1 then [v.n] else if s = 4 then M.var v.n ++ (((M.text v.t).length : Int) :: M.text v.t) else M.var v.n
def aenc (a : Am) : List Int := kenc a.k ++ venc a.k.s a.v
/-- What Bytes answers. -/
def abytes (a : Am) : List Int := if a.right = true then aenc a else []
theorem between_parts {lo hi : Int} {v : Vl} (h : betweenB lo hi v = true) : lo ≤ v.n ∧ v.n ≤ hi ∧ v.t = M.zero8 := by
  unfold betweenB at h
  simp at h
  exact ⟨h.1.1, h.1.2, h.2⟩
theorem kenc_len {k : Ky} (h : k.Ok) : (kenc k).length ≤ 31 := by
  have a := M.var_ten k.c h.c0 (by have := h.c1; omega)
  have b := M.var_ten k.q h.q0 (by have := h.q1; omega)
  have ht := M.text_len k.m
  have hm := h.ml
  unfold kenc
  split
  · simp; omega
  · split <;> simp <;> omega
theorem venc_len {s : Int} {v : Vl} (h : v.Ok) : (venc s v).length ≤ 19 := by
  have a := M.var_ten v.n h.n0 h.n1
  have ht := M.text_len v.t
  have hm := h.tl
  unfold venc
  split
  · simp
  · split
    · simp; omega
    · omega
theorem aenc_len {a : Am} (h : a.Ok) : (aenc a).length ≤ 50 := by
  have := kenc_len h.k
  have := venc_len (s := a.k.s) h.v
  unfold aenc
  rw [List.length_append]; omega
theorem abytes_len {a : Am} (h : a.Ok) : (abytes a).length ≤ 50 := by
  unfold abytes; split
  · exact aenc_len h
  · simp
/-- Stamp and Unstamp. -/
def stamp (n r : Int) : Int := n * 256 + r
theorem stamp_back {x : Int} (h0 : 0 ≤ x) : (stamp (x / 256 % 4294967296) (x % 256) = x) ↔ x < 1099511627776 := by unfold stamp; omega
end Go.Proofs.YtnpbmihbmilkbaaGreat
