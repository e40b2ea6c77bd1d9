/- The contracts of Num, Byte, Name and Bytes of a cursor. -/
import Derived.Test.YteggjihhjdeieaaGreatReadName
namespace Go.Proofs.YteggjihhjdeieaaGreat
namespace M
def Got.err {α : Type} : Got α → Int
  | .bad e => e
  | .got _ _ => 0
def Got.rst {α : Type} : Got α → List Int
  | .bad _ => []
  | .got _ r => r
def Got.val {α : Type} (z : α) : Got α → α
  | .bad _ => z
  | .got a _ => a
/-- A cursor with an error reads nothing more. -/
def gate {α : Type} (e : Int) (r : Got α) : Got α := if e = 0 then r else .bad e
theorem gate_ok {α : Type} (r : Got α) : gate 0 r = r := rfl
theorem gate_bad {α : Type} {e : Int} (he : e ≠ 0) (r : Got α) : gate e r = .bad e := if_neg he
end M
open Go.RowKit

theorem box_cell (w : World) (t : Nat) (v : Value) : (w.alloc (.cells #[v] t)).cell? ⟨w.heap.size, 0, none⟩ = some v := by simp
theorem new_below (w : World) (o : Obj) : Below w.heap.size w (w.alloc o) := (Below.refl _ _).alloc (Nat.le_refl _) _
theorem num_is (g : Nat) (R : Option Nat) (e most : Int) (l : List Int) (res : M.Got Int) (w : World) (h : CurAt w g R e l) (hr : Hid (M.gate e (M.rNum most l) = res)) :
    Calls Tryz.prog 48 #[.pointer (some ⟨g, 0, none⟩), .int .u64 most] w fun r w' => r = .returned (.int .u64 (res.val 0)) ∧ CurAt w' g R res.err res.rst ∧ Only g w w' := by
  have hc := Lib.hid (box_cell w 28 (.int .u64 most))
  have HN := Lib.hid (h.alloc (.cells #[.int .u64 most] 28))
  obtain ⟨v, lv, h1, hlv, h2, h3⟩ := h
  have HC := Lib.hid (h1.alloc (.cells #[.int .u64 most] 28))
  clear h1
  by_cases he : e = 0
  · subst he
    obtain rfl := h2 rfl
    clear h2 h3
    have hr' := hr.out
    rw [M.gate_ok] at hr'
    clear hr
    cases res with
    | bad e =>
      have HR := Lib.hid hr'
      have hne := rNum_err hr'
      clear hr'
      go_enter Tryz.func48, Tryz.ntmps48
      go_wp2_with fail
      refine (read64_bad g R v lv _ w.heap.size most e hc.out HC.out hlv HR hne).mono ?_
      rintro r w' ⟨rfl, hc', ho⟩
      have C1 := Lib.hid hc'
      have O1 := Lib.hid ho
      clear hc' ho
      go_wp2_with fail
      go_ret
      exact ⟨rfl, C1.out, ((Only.refl g w).alloc _).trans O1.out⟩
    | got x rest =>
      have HR := Lib.hid hr'
      clear hr'
      go_enter Tryz.func48, Tryz.ntmps48
      go_wp2_with fail
      refine (read64_got g R v lv _ w.heap.size most x rest hc.out HC.out hlv HR).mono ?_
      rintro r w' ⟨rfl, hc', ho⟩
      have C1 := Lib.hid hc'
      have O1 := Lib.hid ho
      clear hc' ho
      go_wp2_with fail
      go_ret
      exact ⟨rfl, C1.out, ((Only.refl g w).alloc _).trans O1.out⟩
  · obtain rfl := h3 he
    have hr' := hr.out
    rw [M.gate_bad he] at hr'
    subst hr'
    clear h2 h3 hr
    go_enter Tryz.func48, Tryz.ntmps48
    go_wp2_with fail
    refine (read64_spent g e v _ _ HC.out.1 he).mono ?_
    rintro r w' ⟨rfl, rfl⟩
    go_wp2_with fail
    go_ret
    exact ⟨rfl, HN.out, (Only.refl g w).alloc _⟩
theorem num_none (most : Int) (w : World) : Calls Tryz.prog 48 #[.pointer none, .int .u64 most] w fun r w' => r = .returned (.int .u64 0) ∧ Below w.heap.size w w' := by
  go_enter Tryz.func48, Tryz.ntmps48
  go_wp2_with fail
  refine (read64_none _ _).mono ?_
  rintro r w' ⟨rfl, rfl⟩
  go_wp2_with fail
  go_ret
  exact ⟨rfl, new_below w _⟩
theorem byte_is (g : Nat) (R : Option Nat) (e : Int) (l : List Int) (res : M.Got Int) (w : World) (h : CurAt w g R e l) (hr : Hid (M.gate e (M.rByte l) = res)) :
    Calls Tryz.prog 46 #[.pointer (some ⟨g, 0, none⟩)] w fun r w' => r = .returned (.int .u8 (res.val 0)) ∧ CurAt w' g R res.err res.rst ∧ Only g w w' := by
  have HN := Lib.hid h
  obtain ⟨v, lv, h1, hlv, h2, h3⟩ := h
  have HC := Lib.hid h1
  clear h1
  by_cases he : e = 0
  · subst he
    obtain rfl := h2 rfl
    clear h2 h3
    have hr' := hr.out
    rw [M.gate_ok] at hr'
    clear hr
    cases lv with
    | nil =>
      subst hr'
      go_enter Tryz.func46, Tryz.ntmps46
      go_wp2_with fail
      refine (read8_bad g R v _ HC.out).mono ?_
      rintro r w' ⟨rfl, hc', ho⟩
      have C1 := Lib.hid hc'
      have O1 := Lib.hid ho
      clear hc' ho
      go_wp2_with fail
      go_ret
      exact ⟨rfl, C1.out, O1.out⟩
    | cons c r =>
      subst hr'
      go_enter Tryz.func46, Tryz.ntmps46
      go_wp2_with fail
      refine (read8_got g R v r _ c HC.out hlv).mono ?_
      rintro r w' ⟨rfl, hc', ho⟩
      have C1 := Lib.hid hc'
      have O1 := Lib.hid ho
      clear hc' ho
      go_wp2_with fail
      go_ret
      exact ⟨rfl, C1.out, O1.out⟩
  · obtain rfl := h3 he
    have hr' := hr.out
    rw [M.gate_bad he] at hr'
    subst hr'
    clear h2 h3 hr
    go_enter Tryz.func46, Tryz.ntmps46
    go_wp2_with fail
    refine (read8_spent g e v _ _ HC.out.1 he).mono ?_
    rintro r w' ⟨rfl, rfl⟩
    go_wp2_with fail
    go_ret
    exact ⟨rfl, HN.out, Only.refl g w⟩
theorem byte_none (w : World) : Calls Tryz.prog 46 #[.pointer none] w fun r w' => r = .returned (.int .u8 0) ∧ Below w.heap.size w w' := by
  go_enter Tryz.func46, Tryz.ntmps46
  go_wp2_with fail
  refine (read8_none _ _).mono ?_
  rintro r w' ⟨rfl, rfl⟩
  go_wp2_with fail
  go_ret
  exact ⟨rfl, Below.refl _ _⟩

theorem rName_bad {l : List Int} {e : Int} (h : M.rName l = .bad e) : e ≠ 0 := by
  cases l with
  | nil => injection h with h; omega
  | cons c r =>
    rw [M.rName_cons] at h
    split at h
    · injection h with h; omega
    · split at h
      · injection h with h; omega
      · split at h
        · injection h with h; omega
        · cases h
theorem rName_got {l m rest : List Int} (h : M.rName l = .got m rest) : m.length = 8 ∧ rest.length ≤ l.length := by
  cases l with
  | nil => cases h
  | cons c r =>
    rw [M.rName_cons] at h
    split at h
    · cases h
    · split at h
      · cases h
      · split at h
        · cases h
        · injection h with h1 h2
          rw [← h1, ← h2]
          exact ⟨M.pad_len _, by simp; omega⟩
theorem takeName_is (g : Nat) (R : Option Nat) (v : Value) (l : List Int) (w : World) (h : Cur w g R 0 v l) (hl : l.length ≤ 30000) :
    (∀ e, M.rName l = .bad e → Calls Tryz.prog 89 #[.pointer (some ⟨g, 0, none⟩)] w (NameBad w g R e)) ∧ (∀ m rest, M.rName l = .got m rest → Calls Tryz.prog 89 #[.pointer (some ⟨g, 0, none⟩)] w (NameGot w g R m rest)) := by
  cases l with
  | nil => exact ⟨fun e he => by injection he with he; subst he; exact takeName_empty g R v w h, fun _ _ hg => by cases hg⟩
  | cons c l =>
    have hc := h.2.1.1.bytes c (List.mem_cons_self ..)
    have hl' : l.length + 1 ≤ 30000 := hl
    rw [M.rName_cons]
    by_cases h8 : 8 < c
    · rw [if_pos h8]
      exact ⟨fun e he => by injection he with he; subst he; exact takeName_big g R c v l w h hl' h8, fun _ _ hg => by cases hg⟩
    · rw [if_neg h8]
      by_cases hs : (l.length : Int) < c
      · rw [if_pos hs]
        exact ⟨fun e he => by injection he with he; subst he; exact takeName_short g R c v l w h hl' hc.1 (by omega) hs, fun _ _ hg => by cases hg⟩
      · rw [if_neg hs]
        obtain ⟨k, rfl⟩ := Int.eq_ofNat_of_zero_le hc.1
        rw [Int.toNat_natCast]
        by_cases h0 : k = 0
        · subst h0
          rw [if_neg (fun hh => by simp at hh)]
          refine ⟨fun e he => (by cases he), fun m rest hg => ?_⟩
          injection hg with e1 e2
          subst e1; subst e2
          exact takeName_none g R v l w h hl'
        · obtain ⟨b, hb⟩ : ∃ b, M.isN (l.take k) = b := ⟨_, rfl⟩
          have hw := takeName_word g k R v l b w h hl' (by omega) (by omega) (by omega) (Lib.hid hb)
          cases b with
          | false =>
            rw [if_pos ⟨by omega, hb⟩]
            refine ⟨fun e he => ?_, fun _ _ hg => by cases hg⟩
            injection he with he
            subst he
            exact hw.mono fun r w' ⟨hr, ⟨v', hc'⟩, ho⟩ => ⟨M.zero8, rfl, hr, ⟨_, _, hc'⟩, ho⟩
          | true =>
            rw [if_neg (fun hh => by rw [hb] at hh; exact absurd hh.2 (by decide))]
            refine ⟨fun e he => (by cases he), fun m rest hg => ?_⟩
            injection hg with e1 e2
            subst e1; subst e2
            exact hw
set_option maxRecDepth 100000 in
theorem name_is (g : Nat) (R : Option Nat) (e : Int) (l : List Int) (res : M.Got (List Int)) (w : World) (h : CurAt w g R e l) (hr : Hid (M.gate e (M.rName l) = res)) :
    Calls Tryz.prog 52 #[.pointer (some ⟨g, 0, none⟩)] w fun r w' => r = .returned (.agg (nm (res.val M.zero8))) ∧ CurAt w' g R res.err res.rst ∧ Only g w w' := by
  have hz := zero23
  have HF := Lib.hid (h.far (Nat.le_refl _))
  obtain ⟨v, lv, h1, hlv, h2, h3⟩ := h
  have HC := Lib.hid (h1.alloc (.cells (nm M.zero8) 24))
  have HA := Lib.hid (at_new w)
  clear h1
  by_cases he : e = 0
  · subst he
    obtain rfl := h2 rfl
    clear h2 h3
    have hr' := hr.out
    rw [M.gate_ok] at hr'
    clear hr
    cases res with
    | bad e =>
      have hne := rName_bad hr'
      have hcall := Lib.hid (fun w' hc => (takeName_is g R v lv w' hc hlv).1 e hr')
      clear hr'
      go_enter Tryz.func52, Tryz.ntmps52
      go_wp2_with fail
      refine (readN_bad g R e v lv _ HC.out hlv hne hcall).mono ?_
      rintro r w' ⟨rfl, hc', ho⟩
      have C1 := Lib.hid hc'
      have O1 := Lib.hid ho
      have A1 := Lib.hid (HA.out.only ho HF.out.1.symm)
      clear hc' ho
      go_wp2_with (refine wpList_put_name rfl _ _ rfl w.heap.size M.zero8 M.zero8 rfl rfl A1.out rfl rfl ?_; intro w2 A2 O2)
      refine bodyPost_ret (results_one rfl _ _ w.heap.size _ rfl A2.out rfl) rfl ?_
      exact ⟨rfl, C1.out.only O2.out HF.out.1 HF.out.2, (((Only.refl g w).alloc _).trans O1.out).new O2.out (Nat.le_refl _)⟩
    | got m rest =>
      have hl := rName_got hr'
      have HL := Lib.hid hl.1
      have hrl := Nat.le_trans hl.2 hlv
      have hcall := Lib.hid (fun w' hc => (takeName_is g R v lv w' hc hlv).2 m rest hr')
      clear hr' hl
      go_enter Tryz.func52, Tryz.ntmps52
      go_wp2_with fail
      refine (readN_got g R v lv m rest _ HC.out hrl HL.out hcall).mono ?_
      rintro r w' ⟨rfl, hc', ho⟩
      have C1 := Lib.hid hc'
      have O1 := Lib.hid ho
      have A1 := Lib.hid (HA.out.only ho HF.out.1.symm)
      clear hc' ho
      go_wp2_with (refine wpList_put_name rfl _ _ rfl w.heap.size M.zero8 m rfl rfl A1.out rfl HL.out ?_; intro w2 A2 O2)
      refine bodyPost_ret (results_one rfl _ _ w.heap.size m rfl A2.out HL.out) rfl ?_
      exact ⟨rfl, C1.out.only O2.out HF.out.1 HF.out.2, (((Only.refl g w).alloc _).trans O1.out).new O2.out (Nat.le_refl _)⟩
  · obtain rfl := h3 he
    have hr' := hr.out
    rw [M.gate_bad he] at hr'
    subst hr'
    clear h2 h3 hr
    go_enter Tryz.func52, Tryz.ntmps52
    go_wp2_with fail
    refine (readN_spent g R e v _ lv _ HC.out he).mono ?_
    rintro r w' ⟨rfl, hc', ho⟩
    have C1 := Lib.hid (curAt_bad hc' hlv he)
    have O1 := Lib.hid ho
    have A1 := Lib.hid (HA.out.only ho HF.out.1.symm)
    clear hc' ho
    go_wp2_with (refine wpList_put_name rfl _ _ rfl w.heap.size M.zero8 M.zero8 rfl rfl A1.out rfl rfl ?_; intro w2 A2 O2)
    refine bodyPost_ret (results_one rfl _ _ w.heap.size _ rfl A2.out rfl) rfl ?_
    exact ⟨rfl, C1.out.only O2.out HF.out.1 HF.out.2, (((Only.refl g w).alloc _).trans O1.out).new O2.out (Nat.le_refl _)⟩
set_option maxRecDepth 100000 in
theorem name_none (w : World) : Calls Tryz.prog 52 #[.pointer none] w fun r w' => r = .returned (.agg (nm M.zero8)) ∧ Below w.heap.size w w' := by
  have hz := zero23
  have HA := Lib.hid (at_new w)
  go_enter Tryz.func52, Tryz.ntmps52
  go_wp2_with fail
  refine (readN_none _ _).mono ?_
  rintro r w' ⟨rfl, c1⟩
  have A1 := Lib.hid (HA.out.below c1)
  have B1 := Lib.hid (step_ (new_below w (.cells (nm M.zero8) 24)) c1)
  clear c1
  go_wp2_with (refine wpList_put_name rfl _ _ rfl w.heap.size M.zero8 M.zero8 rfl rfl A1.out rfl rfl ?_; intro w2 A2 O2)
  refine bodyPost_ret (results_one rfl _ _ w.heap.size _ rfl A2.out rfl) rfl ?_
  exact ⟨rfl, B1.out.trans (O2.out.below (Nat.le_refl _) B1.out.size)⟩
end Go.Proofs.YteggjihhjdeieaaGreat
