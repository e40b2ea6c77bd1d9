/- What is cut off a slice of bytes; the contracts of takeNum, cut, takeByte, takeName and takeBytes of a cursor. -/
import Derived.Test.YteggjihhjdeieaaGreatWires
import Derived.Test.YteggjihhjdeieaaGreatMathW
import Derived.Test.YteggjihhjdeieaaGreatRefUnvar
namespace Go.Proofs.YteggjihhjdeieaaGreat
open Go.RowKit

theorem BytesAt.bytes {w : World} {v : Value} {l : List Int} (h : BytesAt w v l) : M.Bytes l := by
  obtain ⟨_, _, _, _, hb, _⟩ := h
  exact hb
theorem BytesIn.shape {R : Option Nat} {w : World} {v : Value} {l : List Int} (h : BytesIn R w v l) : ∃ a cap, v = .slice a l.length cap := by
  obtain ⟨⟨a, cap, hv, _⟩, _⟩ := h
  exact ⟨a, cap, hv⟩
theorem elem31 : Tryz.prog.underlying 33 = some (.slice 5) := Tryz.underlying33
/-- The bytes from k on, with what is said of them. -/
theorem bytes_from {R : Option Nat} {w : World} {a : Option Addr} {cap : Nat} {l : List Int} (h : BytesIn R w (.slice a l.length cap) l) (k : Nat) (hk : k ≤ l.length) : BytesIn R w (sliced a k l.length cap 1) (l.drop k) := by
  obtain ⟨⟨a', cap', hv, hcap, hb, hc⟩, hn⟩ := h
  injection hv with h1 h2 h3
  subst h1; subst h3
  have hl : (l.drop k).length = l.length - k := List.length_drop
  have hle : l.length - k ≤ cap - k := Nat.sub_le_sub_right hcap.1 k
  unfold sliced
  by_cases h0 : 0 < l.length
  · obtain ⟨g, off, rfl, hg, hcell⟩ := hc h0
    have hX := hn g off _ _ rfl h0
    by_cases e : cap = k
    · rw [if_pos e]
      have hz : ¬ 0 < l.length - k := by have := hcap.1; clear hc hcell hn; omega
      exact ⟨⟨_, _, by rw [hl], ⟨by rw [hl]; exact hle, fun h => by cases h⟩, hb.drop k, fun h => absurd (hl ▸ h) hz⟩, fun g' off' n' cap'' hv hn' => by injection hv with h1 h2 h3; omega⟩
    · rw [if_neg e, Option.map_some, Nat.mul_one, add_at]
      refine ⟨⟨_, _, by rw [hl], ⟨by rw [hl]; exact hle, fun h => by cases h⟩, hb.drop k, fun h => ⟨g, off + k, rfl, hg, fun i hi => ?_⟩⟩, fun g' off' n' cap'' hv hn' => ?_⟩
      · have hi2 : k + i < l.length := by rw [hl] at hi; clear hc hn hcell hle hl; omega
        rw [Nat.add_assoc, hcell (k + i) hi2, List.getElem_drop]
      · injection hv with h1 h2 h3
        injection h1 with h1
        injection h1 with h1
        rw [hX, h1]
  · obtain rfl : k = 0 := by omega
    obtain rfl : l = [] := List.eq_nil_of_length_eq_zero (by omega)
    refine ⟨⟨_, cap - 0, rfl, ⟨Nat.zero_le _, fun h => ?_⟩, hb, fun h => absurd h (by simp)⟩, fun g' off' n' cap'' hv hn' => ?_⟩
    · cases a with
      | none => have := hcap.2 rfl; omega
      | some ad => split at h <;> cases h
    · injection hv with h1 h2 h3
      simp at h2
      omega
/-- The first k bytes, without the capacity behind them. -/
theorem bytes_head {R : Option Nat} {w : World} {a : Option Addr} {cap : Nat} {l : List Int} (h : BytesIn R w (.slice a l.length cap) l) (k m : Nat) (hk : k ≤ l.length) (hm : k ≤ m) (hm2 : m ≤ cap) : BytesIn R w (sliced a 0 k m 1) (l.take k) := by
  obtain ⟨⟨a', cap', hv, hcap, hb, hc⟩, hn⟩ := h
  injection hv with h1 h2 h3
  subst h1; subst h3
  have hl : (l.take k).length = k := by rw [List.length_take]; omega
  unfold sliced
  by_cases h0 : 0 < k
  · obtain ⟨g, off, rfl, hg, hcell⟩ := hc (by omega)
    have hX := hn g off _ _ rfl (by omega)
    rw [if_neg (by omega), Option.map_some, Nat.mul_one, add_at, Nat.sub_zero, Nat.sub_zero]
    refine ⟨⟨_, _, by rw [hl], ⟨by rw [hl]; exact hm, fun h => by cases h⟩, hb.take k, fun _ => ⟨g, off + 0, rfl, hg, fun i hi => ?_⟩⟩, fun g' off' n' cap'' hv hn' => ?_⟩
    · rw [hl] at hi
      rw [Nat.add_zero, hcell i (by omega), List.getElem_take]
    · injection hv with h1 h2 h3
      injection h1 with h1
      injection h1 with h1
      rw [hX, h1]
  · obtain rfl : k = 0 := by omega
    refine ⟨⟨_, m - 0, rfl, ⟨Nat.zero_le _, fun h => ?_⟩, hb.take 0, fun h => absurd h (by simp)⟩, fun g' off' n' cap'' hv hn' => ?_⟩
    · cases a with
      | none => have := hcap.2 rfl; omega
      | some ad => split at h <;> cases h
    · injection hv with h1 h2 h3
      simp at h2
      omega
theorem run_from (w : World) (a : Option Addr) (n cap k : Nat) (kl : IntKind) (hk : k ≤ n) : (Instr.sliceAt 33 (.slice a n cap) (some (.int kl k)) none none).run Tryz.prog w = .ok (sliced a k n cap 1) w := by
  simp [Instr.sliceAt, Instr.slice, run_underlying elem31, Instr.sliceBounds, run_sliceBound, sliced, hk]
theorem run_head (w : World) (a : Option Addr) (n cap k : Nat) (kl km : IntKind) (hk : k ≤ cap) : (Instr.sliceAt 33 (.slice a n cap) none (some (.int kl k)) (some (.int km k))).run Tryz.prog w = .ok (sliced a 0 k k 1) w := by
  simp [Instr.sliceAt, Instr.slice, run_underlying elem31, Instr.sliceBounds, run_sliceBound, sliced, hk]
/-- x[lo:] -/
theorem wpList_from {ops : Array Oper} {rest : List Oper} {o : Oper} {ac : Act} {w : World} {Q : Exit → Act → World → Prop} (R : Option Nat) (hgd : o.guard = none) (x lo : Operand) (ho : o.op = .slice 33 x (some lo) none none)
    (kl : IntKind) (a : Option Addr) (cap k : Nat) (l : List Int) (hx : ac.eval x = .slice a l.length cap) (hlo : ac.eval lo = .int kl k) (hv : BytesIn R w (.slice a l.length cap) l) (hk : k ≤ l.length)
    (h : ∀ a' cap', Hid (BytesIn R w (.slice a' (l.length - k) cap') (l.drop k)) → wpList Tryz.prog ops Q rest (ac.put o.dst (.slice a' (l.length - k) cap')) w) : wpList Tryz.prog ops Q (o :: rest) ac w :=
  wpList_plain hgd fun _ hK => by
    unfold Oper.wp execOp
    simp only [ho, hx, hlo, Option.map_some, Option.map_none, Sem.run_bind, run_from w a l.length cap k kl hk, Result.andThen_ok, Sem.run_pure]
    obtain ⟨a', cap', e⟩ := (bytes_from hv k hk).shape
    rw [List.length_drop] at e
    rw [e]
    exact hK _ _ (h _ _ (Lib.hid (e ▸ bytes_from hv k hk)))
/-- x[:hi:hi] -/
theorem wpList_head {ops : Array Oper} {rest : List Oper} {o : Oper} {ac : Act} {w : World} {Q : Exit → Act → World → Prop} (R : Option Nat) (hgd : o.guard = none) (x hi mx : Operand) (ho : o.op = .slice 33 x none (some hi) (some mx))
    (kl km : IntKind) (a : Option Addr) (cap k : Nat) (l : List Int) (hx : ac.eval x = .slice a l.length cap) (hhi : ac.eval hi = .int kl k) (hmx : ac.eval mx = .int km k) (hv : BytesIn R w (.slice a l.length cap) l) (hk : k ≤ l.length)
    (h : ∀ a' cap', Hid (BytesIn R w (.slice a' k cap') (l.take k)) → wpList Tryz.prog ops Q rest (ac.put o.dst (.slice a' k cap')) w) : wpList Tryz.prog ops Q (o :: rest) ac w := by
  have hcap : l.length ≤ cap := by
    obtain ⟨⟨a', cap', hv, hcap, _⟩, _⟩ := hv
    injection hv with h1 h2 h3
    omega
  exact wpList_plain hgd fun _ hK => by
    unfold Oper.wp execOp
    simp only [ho, hx, hhi, hmx, Option.map_some, Option.map_none, Sem.run_bind, run_head w a l.length cap k kl km (by omega), Result.andThen_ok, Sem.run_pure]
    have hB := bytes_head hv k k hk (Nat.le_refl _) (by omega)
    obtain ⟨a', cap', e⟩ := hB.shape
    rw [List.length_take, Nat.min_eq_left hk] at e
    rw [e] at hB ⊢
    exact hK _ _ (h _ _ (Lib.hid hB))
theorem Cur.parts {w : World} {g : Nat} {R : Option Nat} {e : Int} {v : Value} {l : List Int} (h : Cur w g R e v l) : ∃ a cap, v = .slice a l.length cap := by
  exact h.2.1.shape
theorem cur_set {w : World} {g : Nat} {R : Option Nat} {e : Int} {v v' : Value} {l l' : List Int} (h : Cur w g R e v l) (hv : BytesIn R w v' l') : Cur (w.setCell ⟨g, 1, none⟩ v') g R e v' l' := ⟨h.1.set 1 v', hv.only (Only.set g 1 w v') h.2.2.1, h.2.2.1, fun r hr => Nat.lt_of_lt_of_le (h.2.2.2 r hr) (Only.set g 1 w v').size⟩

theorem takeNum_bad (g : Nat) (most e : Int) (R : Option Nat) (v : Value) (l : List Int) (w : World) (h : Cur w g R 0 v l) (hl : l.length ≤ 30000) (hr : Hid (M.rNum most l = .bad e)) :
    Calls Tryz.prog 87 #[.pointer (some ⟨g, 0, none⟩), .int .u64 most] w fun r w' => r = .returned (.tuple #[.int .u64 0, .int .i64 e]) ∧ w = w' := by
  have c1 := h.1.cell (i := 1) rfl
  have HB := Lib.hid h.2.1.1
  clear h
  obtain ⟨x, n, er, hu⟩ : ∃ x n er, M.unv l 0 0 = (x, n, er) := ⟨_, _, _, rfl⟩
  have hr' := hr.out
  unfold M.rNum at hr'
  rw [hu] at hr'
  have HU := Lib.hid hu
  clear hu hr
  by_cases he : er = 0
  · subst he
    by_cases hm : most < x
    · simp only [if_true, if_pos hm] at hr'
      injection hr' with hr'
      subst hr'
      go_enter Tryz.func87, Tryz.ntmps87
      go_wp2_with fail
      refine (unvar_is v l x n 0 _ HB.out hl HU).mono ?_
      rintro r w' ⟨rfl, rfl⟩
      go_wp2_with fail
      go_ret2
      exact ⟨rfl, rfl⟩
    · simp only [if_true, if_neg hm] at hr'
      cases hr'
  · simp only [if_neg he] at hr'
    injection hr' with hr'
    subst hr'
    go_enter Tryz.func87, Tryz.ntmps87
    go_wp2_with fail
    refine (unvar_is v l x n er _ HB.out hl HU).mono ?_
    rintro r w' ⟨rfl, rfl⟩
    go_wp2_with fail
    go_ret2
    exact ⟨rfl, rfl⟩
theorem takeNum_got (g : Nat) (most x : Int) (R : Option Nat) (v : Value) (l rest : List Int) (w : World) (h : Cur w g R 0 v l) (hl : l.length ≤ 30000) (hr : Hid (M.rNum most l = .got x rest)) :
    Calls Tryz.prog 87 #[.pointer (some ⟨g, 0, none⟩), .int .u64 most] w fun r w' => r = .returned (.tuple #[.int .u64 x, .int .i64 0]) ∧ ∃ v', Cur w' g R 0 v' rest ∧ Only g w w' := by
  have c1 := h.1.cell (i := 1) rfl
  have f1 := h.1.frozen 1
  have HC := Lib.hid h
  obtain ⟨a, cap, rfl⟩ := h.parts
  clear h
  obtain ⟨x', n, er, hu⟩ : ∃ x n er, M.unv l 0 0 = (x, n, er) := ⟨_, _, _, rfl⟩
  have hr' := hr.out
  unfold M.rNum at hr'
  rw [hu] at hr'
  by_cases he : er = 0
  · subst he
    have hsz := M.unv_size HC.out.2.1.1.bytes hu
    by_cases hm : most < x'
    · simp only [if_true, if_pos hm] at hr'
      cases hr'
    · simp only [if_true, if_neg hm] at hr'
      injection hr' with e1 e2
      subst e1
      subst e2
      obtain ⟨k, rfl⟩ := Int.eq_ofNat_of_zero_le hsz.1
      have hk : k ≤ l.length := by omega
      have HU := Lib.hid hu
      clear hu hr hsz
      go_enter Tryz.func87, Tryz.ntmps87
      go_wp2_with fail
      refine (unvar_is _ l x' k 0 _ HC.out.2.1.1 hl HU).mono ?_
      rintro r w' ⟨rfl, rfl⟩
      go_wp2_with (refine wpList_from R rfl _ _ rfl .i64 a cap k l rfl rfl HC.out.2.1 hk ?_; intro a' cap' HV)
      go_ret2
      exact ⟨rfl, _, cur_set HC.out HV.out, Only.set g 1 w _⟩
  · simp only [if_neg he] at hr'
    cases hr'
end Go.Proofs.YteggjihhjdeieaaGreat
