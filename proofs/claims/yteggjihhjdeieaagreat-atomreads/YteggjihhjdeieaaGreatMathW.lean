/- What is written and read, as lists of numbers: no program in this text. -/
import Derived.Test.YteggjihhjdeieaaGreatMathN
namespace Go.Proofs.YteggjihhjdeieaaGreat.M

/-- What a read comes to: an error, or a value and the bytes behind it. -/
inductive Got (α : Type) where
  | bad (e : Int)
  | got (a : α) (rest : List Int)
def Got.map {α β : Type} (f : α → β) : Got α → Got β
  | .bad e => .bad e
  | .got a r => .got (f a) r
def rNum (most : Int) (l : List Int) : Got Int :=
  if (unv l 0 0).2.2 = 0 then (if most < (unv l 0 0).1 then .bad 2 else .got (unv l 0 0).1 (l.drop (unv l 0 0).2.1.toNat)) else .bad (unv l 0 0).2.2
def rByte : List Int → Got Int
  | [] => .bad 4
  | c :: r => .got c r
def rCut (n : Int) (l : List Int) : Got (List Int) := if (l.length : Int) < n then .bad 4 else .got (l.take n.toNat) (l.drop n.toNat)
def rName : List Int → Got (List Int)
  | [] => .bad 4
  | c :: r => if 8 < c then .bad 3 else if (r.length : Int) < c then .bad 4 else if 0 < c ∧ isN (r.take c.toNat) = false then .bad 3 else .got (pad (r.take c.toNat)) (r.drop c.toNat)
theorem rName_cons (c : Int) (r : List Int) : rName (c :: r) = if 8 < c then .bad 3 else if (r.length : Int) < c then .bad 4 else if 0 < c ∧ isN (r.take c.toNat) = false then .bad 3 else .got (pad (r.take c.toNat)) (r.drop c.toNat) := rfl
def rBytes (most : Int) (l : List Int) : Got (List Int) :=
  match rNum (max most 0) l with
  | .bad e => .bad e
  | .got x r => rCut x r
/-- What was read of a piece. -/
structure Val where
  x : Int
  c : Int
  nm : List Int
  b : List Int
def zeroV : Val := ⟨0, 0, zero8, []⟩
def rd (d x n : Int) (l : List Int) : Got Val :=
  if d = 0 then (rNum x l).map fun x => ⟨x, 0, zero8, []⟩
  else if d = 1 then (rByte l).map fun c => ⟨0, c, zero8, []⟩
  else if d = 2 then (rName l).map fun m => ⟨0, 0, m, []⟩
  else (rBytes n l).map fun b => ⟨0, 0, zero8, b⟩
def enc (d x c : Int) (nm b : List Int) : List Int :=
  if d = 0 then var x else if d = 1 then [c] else if d = 2 then ((text nm).length : Int) :: text nm else var b.length ++ b

theorem unv_zero (l : List Int) (k : Nat) (x : Int) : (unv l k x).2.2 = 0 ∨ ((unv l k x).1 = 0 ∧ (unv l k x).2.1 = 0) := by
  induction l generalizing k x with
  | nil => right; exact ⟨rfl, rfl⟩
  | cons c r ih =>
    unfold unv
    split
    · right; exact ⟨rfl, rfl⟩
    · split
      · right; exact ⟨rfl, rfl⟩
      · split
        · left; rfl
        · exact ih _ _
theorem unv_size {l : List Int} {z m : Int} (hb : Bytes l) (h : unv l 0 0 = (z, m, 0)) : 0 ≤ m ∧ m ≤ l.length ∧ 0 ≤ z ∧ z < 18446744073709551616 := by
  obtain ⟨y, j, _, _, hm, hj, _⟩ := var_unv l 0 0 z m hb h
  have := unv_range l 0 0 hb (by omega) (by omega) (by omega)
  rw [h] at this
  exact ⟨by omega, by omega, this.1, this.2⟩
theorem rNum_var (x most : Int) (more : List Int) (h0 : 0 ≤ x) (h1 : x < 18446744073709551616) (hm : x ≤ most) : rNum most (var x ++ more) = .got x more := by
  have h := unv_var more x h0 0 0 (by omega) (by omega) (by simpa using h1)
  unfold rNum
  rw [h]
  simp
  omega
theorem rCut_app (b more : List Int) : rCut b.length (b ++ more) = .got b more := by
  unfold rCut
  rw [if_neg (by simp; omega)]
  simp
theorem rBytes_back (b more : List Int) (h : (b.length : Int) < 18446744073709551616) : rBytes b.length (var b.length ++ b ++ more) = .got b more := by
  unfold rBytes
  rw [List.append_assoc, rNum_var _ _ _ (by omega) h (by omega)]
  exact rCut_app b more
theorem rName_back (n more : List Int) (hl : n.length = 8) (h : n = zero8 ∨ rightB n = true) : rName (((text n).length : Int) :: text n ++ more) = .got n more := by
  have ht := text_len n
  rw [List.cons_append, rName_cons, if_neg (by omega), if_neg (by simp; omega)]
  have h1 : (text n ++ more).take ((text n).length : Int).toNat = text n := by simp
  have h2 : (text n ++ more).drop ((text n).length : Int).toNat = more := by simp
  rw [h1, h2]
  rcases h with rfl | h
  · rfl
  · obtain ⟨h3, h4⟩ := right_text hl h
    rw [of_eq] at h3
    rw [if_neg (by rw [h3]; simp), h4]
theorem rd_back (d x c n : Int) (m b more : List Int) (h0 : 0 ≤ x) (h1 : x < 18446744073709551616) (hm : m.length = 8) (hr : d = 2 → m = zero8 ∨ rightB m = true) (hn : n = b.length) (hb : (b.length : Int) < 18446744073709551616) :
    ∃ a, rd d x n (enc d x c m b ++ more) = .got a more ∧ (d = 0 → a.x = x) ∧ (d = 1 → a.c = c) ∧ (d = 2 → a.nm = m) ∧ (d ≠ 0 → d ≠ 1 → d ≠ 2 → a.b = b) := by
  subst hn
  unfold rd enc
  by_cases e0 : d = 0
  · rw [if_pos e0, if_pos e0, rNum_var x x more h0 h1 (by omega)]
    exact ⟨_, rfl, fun _ => rfl, fun h => by omega, fun h => by omega, fun h => absurd e0 h⟩
  · rw [if_neg e0, if_neg e0]
    by_cases e1 : d = 1
    · rw [if_pos e1, if_pos e1]
      exact ⟨_, rfl, fun h => by omega, fun _ => rfl, fun h => by omega, fun _ h => absurd e1 h⟩
    · rw [if_neg e1, if_neg e1]
      by_cases e2 : d = 2
      · rw [if_pos e2, if_pos e2, rName_back m more hm (hr e2)]
        exact ⟨_, rfl, fun h => by omega, fun h => by omega, fun _ => rfl, fun _ _ h => absurd e2 h⟩
      · rw [if_neg e2, if_neg e2, rBytes_back b more hb]
        exact ⟨_, rfl, fun h => by omega, fun h => by omega, fun h => by omega, fun _ _ _ => rfl⟩
theorem enc_bytes {d x c : Int} {m b : List Int} (h0 : 0 ≤ x) (hc : 0 ≤ c ∧ c < 256) (hl : m.length = 8) (hm : Bytes m) (hb : Bytes b) : Bytes (enc d x c m b) := by
  unfold enc
  split
  · exact var_bytes x h0
  · split
    · intro y hy; obtain rfl := List.mem_singleton.1 hy; exact hc
    · split
      · intro y hy
        have ht := text_len m
        rcases List.mem_cons.1 hy with rfl | hy
        · omega
        · exact text_bytes hm y hy
      · exact (var_bytes _ (by omega)).app hb
theorem enc_len {d x c : Int} {m b : List Int} (h0 : 0 ≤ x) (h1 : x < 18446744073709551616) (hl : m.length = 8) (hb : b.length ≤ 60) : (enc d x c m b).length ≤ 70 := by
  unfold enc
  split
  · have := var_ten x h0 h1; omega
  · split
    · simp
    · split
      · have ht := text_len m
        simp; omega
      · have := var_ten (b.length : Int) (by omega) (by omega)
        simp; omega
end Go.Proofs.YteggjihhjdeieaaGreat.M
