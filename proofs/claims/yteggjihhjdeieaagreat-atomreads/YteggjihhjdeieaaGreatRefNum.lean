/- The contract of num of the reference. -/
import Derived.Test.YteggjihhjdeieaaGreatQuiets
namespace Go.Proofs.YteggjihhjdeieaaGreat
open Go.RowKit

/-- x[lo:], in a region that draws its order. -/
theorem quiet_from {o : Oper} {ac : Act} {W : World} {K : Act → Prop} (R : Option Nat) (x lo : Operand) (ho : o.op = .slice 33 x (some lo) none none)
    (kl : IntKind) (a : Option Addr) (cap k : Nat) (l : List Int) (hx : ac.eval x = .slice a l.length cap) (hlo : ac.eval lo = .int kl k) (hv : BytesIn R W (.slice a l.length cap) l) (hk : k ≤ l.length)
    (h : ∀ a' cap', Hid (BytesIn R W (.slice a' (l.length - k) cap') (l.drop k)) → K (ac.put o.dst (.slice a' (l.length - k) cap'))) : o.quiet Tryz.prog ac (Cls W) K := by
  obtain ⟨a', cap', e⟩ := (bytes_from hv k hk).shape
  rw [List.length_drop] at e
  refine ⟨.slice a' (l.length - k) cap', fun w hw => ?_, h _ _ (Lib.hid (e ▸ bytes_from hv k hk))⟩
  obtain ⟨t, rfl⟩ := hw
  unfold Oper.quietAt
  have e1 : (execOp ac.eval o).run Tryz.prog t.1 = .ok (.value (.slice a' (l.length - k) cap')) t.1 := by
    simp only [execOp, ho, hx, hlo, Option.map_some, Option.map_none, Sem.run_bind, run_from t.1 a l.length cap k kl hk, Result.andThen_ok, Sem.run_pure, e]
  rw [e1]
  exact ⟨rfl, rfl⟩
def NumBad (w : World) (e : Int) (r : Ending) (w' : World) : Prop := ∃ x a n cap, r = .returned (.tuple #[.int .u64 x, .slice a n cap, .int .i64 e]) ∧ Below w.heap.size w w'
def NumGot (w : World) (R : Option Nat) (x : Int) (rest : List Int) (r : Ending) (w' : World) : Prop := ∃ a cap, r = .returned (.tuple #[.int .u64 x, .slice a rest.length cap, .int .i64 0]) ∧ BytesIn R w' (.slice a rest.length cap) rest ∧ Below w.heap.size w w'
set_option maxRecDepth 100000 in
theorem numR_bad (R : Option Nat) (most e : Int) (v : Value) (l : List Int) (w : World) (h : BytesIn R w v l) (hr : Hid (M.rNum most l = .bad e)) :
    Calls Tryz.prog 55 #[v, .int .u64 most] w (NumBad w e) := by
  obtain ⟨a, cap, rfl⟩ := h.shape
  have HB := Lib.hid h
  clear h
  obtain ⟨x, n, er, hu⟩ : ∃ x n er, M.unv l 0 0 = (x, n, er) := ⟨_, _, _, rfl⟩
  have hr' := hr.out
  unfold M.rNum at hr'
  rw [hu] at hr'
  have HU := Lib.hid hu
  by_cases he : er = 0
  · subst he
    by_cases hm : most < x
    · simp only [if_true, if_pos hm] at hr'
      injection hr' with hr'
      subst hr'
      clear hu hr
      go_enter Tryz.func55, Tryz.ntmps55
      go_wp2_with fail
      refine (refUnvar_is _ l x n 0 _ HB.out.1 HU).mono ?_
      rintro r w' ⟨rfl, rfl⟩
      go_wp2_with fail
      go_ret3
      exact ⟨0, none, 0, 0, rfl, Below.refl _ _⟩
    · simp only [if_true, if_neg hm] at hr'
      cases hr'
  · simp only [if_neg he] at hr'
    injection hr' with hr'
    subst hr'
    have hz := M.unv_zero l 0 0
    rw [hu] at hz
    obtain ⟨hx0, hn0⟩ := hz.resolve_left he
    have hx1 : x = 0 := hx0
    have hn1 : n = ((0 : Nat) : Int) := hn0
    subst hx1
    subst hn1
    clear hu hr hx0 hn0 hz
    go_enter Tryz.func55, Tryz.ntmps55
    go_wp2_with fail
    refine (refUnvar_is _ l 0 ((0 : Nat) : Int) er _ HB.out.1 HU).mono ?_
    rintro r w' ⟨rfl, rfl⟩
    go_wp2_with fail
    refine region_later (by kernel_rfl) (by kernel_rfl) ?_
    go_big_quiet_step (fail)
    go_big_quiet_step (fail)
    go_big_quiet_step (fail)
    (go_big_quiet_want; refine quiet_from R _ _ rfl .i64 a cap 0 l rfl rfl HB.out (Nat.zero_le _) ?_; intro a' cap' HV; go_simp; go_big_quiet_on)
    repeat go_big_quiet_step (fail)
    refine wpQuiet_nil ?_
    intro w2 hw2
    go_wp2_with fail
    go_ret3
    exact ⟨_, _, _, _, rfl, hw2⟩
set_option maxRecDepth 100000 in
theorem numR_got (R : Option Nat) (most x : Int) (v : Value) (l rest : List Int) (w : World) (h : BytesIn R w v l) (hr : Hid (M.rNum most l = .got x rest)) :
    Calls Tryz.prog 55 #[v, .int .u64 most] w (NumGot w R x rest) := by
  obtain ⟨a, cap, rfl⟩ := h.shape
  have HB := Lib.hid h
  clear h
  obtain ⟨x', n, er, hu⟩ : ∃ x n er, M.unv l 0 0 = (x, n, er) := ⟨_, _, _, rfl⟩
  have hr' := hr.out
  unfold M.rNum at hr'
  rw [hu] at hr'
  by_cases he : er = 0
  · subst he
    have hsz := M.unv_size HB.out.1.bytes hu
    by_cases hm : most < x'
    · simp only [if_true, if_pos hm] at hr'
      cases hr'
    · simp only [if_true, if_neg hm] at hr'
      injection hr' with e1 e2
      subst e1
      obtain ⟨k, rfl⟩ := Int.eq_ofNat_of_zero_le hsz.1
      have hk : k ≤ l.length := by omega
      rw [Int.toNat_natCast] at e2
      have HU := Lib.hid hu
      have HE := Lib.hid e2
      clear hu hr hsz e2
      go_enter Tryz.func55, Tryz.ntmps55
      go_wp2_with fail
      refine (refUnvar_is _ l x' k 0 _ HB.out.1 HU).mono ?_
      rintro r w' ⟨rfl, rfl⟩
      go_wp2_with fail
      refine region_later (by kernel_rfl) (by kernel_rfl) ?_
      go_big_quiet_step (fail)
      go_big_quiet_step (fail)
      go_big_quiet_step (fail)
      (go_big_quiet_want; refine quiet_from R _ _ rfl .i64 a cap k l rfl rfl HB.out hk ?_; intro a' cap' HV; go_simp; go_big_quiet_on)
      repeat go_big_quiet_step (fail)
      refine wpQuiet_nil ?_
      intro w2 hw2
      have hb := HV.out.below hw2
      have hl : l.length - k = rest.length := by rw [← HE.out, List.length_drop]
      rw [hl, HE.out] at hb
      go_wp2_with fail
      go_ret3
      exact ⟨a', cap', (by rw [← hl]; rfl), hb, hw2⟩
  · simp only [if_neg he] at hr'
    cases hr'
end Go.Proofs.YteggjihhjdeieaaGreat
