/- The contracts of read of package wire at a number, a byte and bytes, and of Num, Byte and Bytes of a cursor. -/
import Derived.Test.YteggjihhjdeieaaGreatTakeName
namespace Go.Proofs.YteggjihhjdeieaaGreat
open Go.RowKit

/-- A cursor as a caller sees it: its error, and the bytes that can be read. -/
def CurAt (w : World) (g : Nat) (R : Option Nat) (e : Int) (l : List Int) : Prop := ∃ v lv, Cur w g R e v lv ∧ lv.length ≤ 30000 ∧ (e = 0 → lv = l) ∧ (e ≠ 0 → l = [])
theorem CurAt.below {w w' : World} {g : Nat} {R : Option Nat} {e : Int} {l : List Int} (h : CurAt w g R e l) (hb : Below w.heap.size w w') : CurAt w' g R e l := by
  obtain ⟨v, lv, h1, h2⟩ := h
  exact ⟨v, lv, h1.below hb, h2⟩
theorem CurAt.only {w w' : World} {g x : Nat} {R : Option Nat} {e : Int} {l : List Int} (h : CurAt w g R e l) (ho : Only x w w') (hg : g ≠ x) (hR : R ≠ some x) : CurAt w' g R e l := by
  obtain ⟨v, lv, h1, h2⟩ := h
  exact ⟨v, lv, h1.only ho hg hR, h2⟩
theorem CurAt.far {w : World} {g x : Nat} {R : Option Nat} {e : Int} {l : List Int} (h : CurAt w g R e l) (hx : w.heap.size ≤ x) : g ≠ x ∧ R ≠ some x := by
  obtain ⟨v, lv, h1, h2⟩ := h
  exact h1.far hx
theorem CurAt.alloc {w : World} {g : Nat} {R : Option Nat} {e : Int} {l : List Int} (h : CurAt w g R e l) (o : Obj) : CurAt (w.alloc o) g R e l := h.below ((Below.refl _ _).alloc (Nat.le_refl _) _)
theorem curAt_ok {w : World} {g : Nat} {R : Option Nat} {v : Value} {l : List Int} (h : Cur w g R 0 v l) (hl : l.length ≤ 30000) : CurAt w g R 0 l := ⟨v, l, h, hl, fun _ => rfl, fun h => absurd rfl h⟩
theorem curAt_bad {w : World} {g : Nat} {R : Option Nat} {e : Int} {v : Value} {l : List Int} (h : Cur w g R e v l) (hl : l.length ≤ 30000) (he : e ≠ 0) : CurAt w g R e [] := ⟨v, l, h, hl, fun h => absurd h he, fun _ => rfl⟩
theorem rNum_len {most x : Int} {l rest : List Int} (h : M.rNum most l = .got x rest) : rest.length ≤ l.length := by
  unfold M.rNum at h
  split at h
  · split at h
    · cases h
    · injection h with h1 h2
      rw [← h2]; simp
  · cases h
theorem rNum_err {most e : Int} {l : List Int} (h : M.rNum most l = .bad e) : e ≠ 0 := by
  unfold M.rNum at h
  split at h
  · split at h
    · injection h with h1; omega
    · cases h
  · injection h with h1
    rename_i hne
    rw [← h1]; exact hne
theorem rNum_range {most x : Int} {l rest : List Int} (hb : M.Bytes l) (h : M.rNum most l = .got x rest) : 0 ≤ x ∧ x < 18446744073709551616 := by
  unfold M.rNum at h
  split at h
  · split at h
    · cases h
    · injection h with h1 h2
      have := M.unv_range l 0 0 hb (by omega) (by omega) (by omega)
      rw [h1] at this
      exact this
  · cases h
/-- The start is stored back, and the error kept. -/
theorem restored {w w1 : World} {g : Nat} {R : Option Nat} {v v1 : Value} {l l1 : List Int} (h : Cur w g R 0 v l) (h1 : Cur w1 g R 0 v1 l1) (ho : Only g w w1) : Cur (w1.setCell ⟨g, 1, none⟩ v) g R 0 v l :=
  cur_set h1 (h.2.1.only ho h.2.2.1)
theorem kept_cur {w w1 : World} {g : Nat} {R : Option Nat} {v : Value} {l : List Int} {e : Int} (h : Cur w g R 0 v l) (hb : Blk w1 g 62 [.int .i64 (kept 0 e), v]) (ho : Only g w w1) : Cur w1 g R e v l :=
  ⟨hb, h.2.1.only ho h.2.2.1, h.2.2.1, fun r hr => Nat.lt_of_lt_of_le (h.2.2.2 r hr) ho.size⟩
theorem num1_bad (g b : Nat) (most e : Int) (R : Option Nat) (v : Value) (l : List Int) (w : World) (hc : w.cell? ⟨b, 0, none⟩ = some (.int .u64 most)) (h : Cur w g R 0 v l) (hl : l.length ≤ 30000) (hr : Hid (M.rNum most l = .bad e)) :
    Calls Tryz.prog 86 #[.pointer (some ⟨g, 0, none⟩), .pointer (some ⟨b, 0, none⟩)] w fun r w' => r = .returned (.tuple #[.int .u64 0, .int .i64 e]) ∧ (∃ v' l', Cur w' g R 0 v' l') ∧ Only g w w' := by
  have HC := Lib.hid h
  clear h
  go_enter Tryz.func86, Tryz.ntmps86
  go_wp2_with fail
  refine (takeNum_bad g most e R v l _ HC.out hl hr).mono ?_
  rintro r w' ⟨rfl, rfl⟩
  go_wp2_with fail
  go_ret2
  exact ⟨rfl, ⟨_, _, HC.out⟩, Only.refl _ _⟩
theorem num1_got (g b : Nat) (most x : Int) (R : Option Nat) (v : Value) (l rest : List Int) (w : World) (hc : w.cell? ⟨b, 0, none⟩ = some (.int .u64 most)) (h : Cur w g R 0 v l) (hl : l.length ≤ 30000) (hr : Hid (M.rNum most l = .got x rest)) :
    Calls Tryz.prog 86 #[.pointer (some ⟨g, 0, none⟩), .pointer (some ⟨b, 0, none⟩)] w fun r w' => r = .returned (.tuple #[.int .u64 x, .int .i64 0]) ∧ (∃ v', Cur w' g R 0 v' rest) ∧ Only g w w' := by
  have HC := Lib.hid h
  clear h
  go_enter Tryz.func86, Tryz.ntmps86
  go_wp2_with fail
  refine (takeNum_got g most x R v l rest _ HC.out hl hr).mono ?_
  rintro r w' ⟨rfl, v', hc', ho⟩
  have C1 := Lib.hid hc'
  have O1 := Lib.hid ho
  clear hc' ho
  go_wp2_with fail
  go_ret2
  exact ⟨rfl, ⟨_, C1.out⟩, O1.out⟩
theorem read64_spent (g : Nat) (e : Int) (v f : Value) (w : World) (h : Blk w g 62 [.int .i64 e, v]) (he : e ≠ 0) :
    Calls Tryz.prog 85 #[.pointer (some ⟨g, 0, none⟩), f] w fun r w' => r = .returned (.int .u64 0) ∧ w = w' := by
  have HB := Lib.hid h
  clear h
  go_enter Tryz.func85, Tryz.ntmps85
  go_wp2_with fail
  refine (err_is g e v _ HB.out).mono ?_
  rintro r w' ⟨rfl, rfl⟩
  go_wp2_with fail
  go_ret
  exact ⟨rfl, rfl⟩
theorem read64_none (f : Value) (w : World) : Calls Tryz.prog 85 #[.pointer none, f] w fun r w' => r = .returned (.int .u64 0) ∧ w = w' := by
  go_enter Tryz.func85, Tryz.ntmps85
  go_wp2_with fail
  refine (err_nil _).mono ?_
  rintro r w' ⟨rfl, rfl⟩
  go_wp2_with fail
  go_ret
  exact ⟨rfl, rfl⟩
theorem read64_bad (g : Nat) (R : Option Nat) (v : Value) (l : List Int) (w : World) (b : Nat) (most e : Int) (hc : w.cell? ⟨b, 0, none⟩ = some (.int .u64 most)) (h : Cur w g R 0 v l) (hl : l.length ≤ 30000) (hr : Hid (M.rNum most l = .bad e)) (he : e ≠ 0) :
    Calls Tryz.prog 85 #[.pointer (some ⟨g, 0, none⟩), .func (.func 86) #[] #[.pointer (some ⟨b, 0, none⟩)]] w fun r w' => r = .returned (.int .u64 0) ∧ CurAt w' g R e [] ∧ Only g w w' := by
  have c1 := h.1.cell (i := 1) rfl
  have HC := Lib.hid h
  obtain ⟨a, cap, rfl⟩ := h.parts
  clear h
  go_enter Tryz.func85, Tryz.ntmps85
  go_wp2_with fail
  refine (err_is g 0 _ _ HC.out.1).mono ?_
  rintro r w' ⟨rfl, rfl⟩
  go_wp2_with fail
  refine (num1_bad g b most e R _ l _ hc HC.out hl hr).mono ?_
  rintro r w1 ⟨rfl, ⟨v1, l1, h1⟩, ho1⟩
  have d1 := h1.1.cell (i := 1) rfl
  have f1 := h1.1.frozen 1
  have C1 := Lib.hid (restored HC.out h1 ho1)
  have O1 := Lib.hid (ho1.setCell 1 (.slice a l.length cap))
  clear h1 ho1
  go_wp2_with fail
  refine (keep_is g 0 e _ _ C1.out.1).mono ?_
  rintro r w2 ⟨⟨x2, rfl⟩, hb2, ho2⟩
  have C2 := Lib.hid (kept_cur C1.out hb2 ho2)
  have O2 := Lib.hid ho2
  clear hb2 ho2
  go_wp2_with fail
  go_ret
  exact ⟨rfl, curAt_bad C2.out hl he, O1.out.trans O2.out⟩
theorem read64_got (g : Nat) (R : Option Nat) (v : Value) (l : List Int) (w : World) (b : Nat) (most x : Int) (rest : List Int) (hc : w.cell? ⟨b, 0, none⟩ = some (.int .u64 most)) (h : Cur w g R 0 v l) (hl : l.length ≤ 30000) (hr : Hid (M.rNum most l = .got x rest)) :
    Calls Tryz.prog 85 #[.pointer (some ⟨g, 0, none⟩), .func (.func 86) #[] #[.pointer (some ⟨b, 0, none⟩)]] w fun r w' => r = .returned (.int .u64 x) ∧ CurAt w' g R 0 rest ∧ Only g w w' := by
  have c1 := h.1.cell (i := 1) rfl
  have HC := Lib.hid h
  clear h
  have hrl := Nat.le_trans (rNum_len hr.out) hl
  go_enter Tryz.func85, Tryz.ntmps85
  go_wp2_with fail
  refine (err_is g 0 _ _ HC.out.1).mono ?_
  rintro r w' ⟨rfl, rfl⟩
  go_wp2_with fail
  refine (num1_got g b most x R v l rest _ hc HC.out hl hr).mono ?_
  rintro r w1 ⟨rfl, ⟨v1, h1⟩, ho1⟩
  have C1 := Lib.hid h1
  have O1 := Lib.hid ho1
  clear h1 ho1
  go_wp2_with fail
  go_ret
  exact ⟨rfl, curAt_ok C1.out hrl, O1.out⟩
theorem read8_spent (g : Nat) (e : Int) (v f : Value) (w : World) (h : Blk w g 62 [.int .i64 e, v]) (he : e ≠ 0) :
    Calls Tryz.prog 83 #[.pointer (some ⟨g, 0, none⟩), f] w fun r w' => r = .returned (.int .u8 0) ∧ w = w' := by
  have HB := Lib.hid h
  clear h
  go_enter Tryz.func83, Tryz.ntmps83
  go_wp2_with fail
  refine (err_is g e v _ HB.out).mono ?_
  rintro r w' ⟨rfl, rfl⟩
  go_wp2_with fail
  go_ret
  exact ⟨rfl, rfl⟩
theorem read8_none (f : Value) (w : World) : Calls Tryz.prog 83 #[.pointer none, f] w fun r w' => r = .returned (.int .u8 0) ∧ w = w' := by
  go_enter Tryz.func83, Tryz.ntmps83
  go_wp2_with fail
  refine (err_nil _).mono ?_
  rintro r w' ⟨rfl, rfl⟩
  go_wp2_with fail
  go_ret
  exact ⟨rfl, rfl⟩
theorem byte_bad (g : Nat) (R : Option Nat) (v : Value) (w : World) (h : Cur w g R 0 v []) : Calls Tryz.prog 84 #[.pointer (some ⟨g, 0, none⟩)] w fun r w' => r = .returned (.tuple #[.int .u8 0, .int .i64 4]) ∧ (∃ v' l', Cur w' g R 0 v' l') ∧ Only g w w' :=
  (takeByte_bad g R v w h).mono fun _ _ ⟨hr, hw⟩ => ⟨hr, ⟨v, [], hw ▸ h⟩, hw ▸ Only.refl _ _⟩
theorem read8_bad (g : Nat) (R : Option Nat) (v : Value) (w : World) (h : Cur w g R 0 v []) :
    Calls Tryz.prog 83 #[.pointer (some ⟨g, 0, none⟩), .func (.func 84) #[] #[]] w fun r w' => r = .returned (.int .u8 0) ∧ CurAt w' g R 4 [] ∧ Only g w w' := by
  have c1 := h.1.cell (i := 1) rfl
  have HC := Lib.hid h
  obtain ⟨a, cap, rfl⟩ := h.parts
  clear h
  go_enter Tryz.func83, Tryz.ntmps83
  go_wp2_with fail
  refine (err_is g 0 _ _ HC.out.1).mono ?_
  rintro r w' ⟨rfl, rfl⟩
  go_wp2_with fail
  refine (byte_bad g R _ _ HC.out).mono ?_
  rintro r w1 ⟨rfl, ⟨v1, l1, h1⟩, ho1⟩
  have d1 := h1.1.cell (i := 1) rfl
  have f1 := h1.1.frozen 1
  have C1 := Lib.hid (restored HC.out h1 ho1)
  have O1 := Lib.hid (ho1.setCell 1 (.slice a ([] : List Int).length cap))
  clear h1 ho1
  go_wp2_with fail
  refine (keep_is g 0 4 _ _ C1.out.1).mono ?_
  rintro r w2 ⟨⟨x2, rfl⟩, hb2, ho2⟩
  have C2 := Lib.hid (kept_cur C1.out hb2 ho2)
  have O2 := Lib.hid ho2
  clear hb2 ho2
  go_wp2_with fail
  go_ret
  exact ⟨rfl, curAt_bad C2.out (by simp) (by decide), O1.out.trans O2.out⟩
theorem read8_got (g : Nat) (R : Option Nat) (v : Value) (l : List Int) (w : World) (c : Int) (h : Cur w g R 0 v (c :: l)) (hl : l.length + 1 ≤ 30000) :
    Calls Tryz.prog 83 #[.pointer (some ⟨g, 0, none⟩), .func (.func 84) #[] #[]] w fun r w' => r = .returned (.int .u8 c) ∧ CurAt w' g R 0 l ∧ Only g w w' := by
  have c1 := h.1.cell (i := 1) rfl
  have HC := Lib.hid h
  clear h
  go_enter Tryz.func83, Tryz.ntmps83
  go_wp2_with fail
  refine (err_is g 0 _ _ HC.out.1).mono ?_
  rintro r w' ⟨rfl, rfl⟩
  go_wp2_with fail
  refine (takeByte_got g c R v l _ HC.out hl).mono ?_
  rintro r w1 ⟨rfl, ⟨v1, h1⟩, ho1⟩
  have C1 := Lib.hid h1
  have O1 := Lib.hid ho1
  clear h1 ho1
  go_wp2_with fail
  go_ret
  exact ⟨rfl, curAt_ok C1.out (by omega), O1.out⟩
end Go.Proofs.YteggjihhjdeieaaGreat
