/- What is cut off a slice of bytes; the contracts of takeNum, cut, takeByte, takeName and takeBytes of a cursor. The contracts of cut, takeByte, takeName and takeBytes of a cursor. The contract of takeName of a cursor. -/
import Derived.Test.YteggjihhjdeieaaWires
import Derived.Test.YteggjihhjdeieaaMathN
import Derived.Test.YteggjihhjdeieaaUnvar
namespace Go.Proofs.Yteggjihhjdeieaa
open Go.RowKit

theorem BytesAt.bytes {w : World} {v : Value} {l : List Int} (h : BytesAt w v l) : M.Bytes l := by
  obtain ⟨_, _, _, _, hb, _⟩ := h
  exact hb
theorem BytesIn.shape {R : Option Nat} {w : World} {v : Value} {l : List Int} (h : BytesIn R w v l) : ∃ a cap, v = .slice a l.length cap := by
  obtain ⟨⟨a, cap, hv, _⟩, _⟩ := h
  exact ⟨a, cap, hv⟩
theorem elem31 : Try.prog.underlying 42 = some (.slice 5) := Try.underlying42
/-- The bytes from k on, with what is said of them. -/
theorem bytes_from {R : Option Nat} {w : World} {a : Option Addr} {cap : Nat} {l : List Int} (h : BytesIn R w (.slice a l.length cap) l) (k : Nat) (hk : k ≤ l.length) : BytesIn R w (sliced a k l.length cap 1) (l.drop k) := by
  obtain ⟨⟨a', cap', hv, hcap, hb, hc⟩, hn⟩ := h
  injection hv with h1 h2 h3
  subst h1; subst h3
  have hl : (l.drop k).length = l.length - k := List.length_drop
  have hle : l.length - k ≤ cap - k := Nat.sub_le_sub_right hcap.1 k
  unfold sliced
  by_cases h0 : 0 < l.length
  · obtain ⟨g, off, rfl, hg, hcell⟩ := hc h0
    have hX := hn g off _ _ rfl h0
    by_cases e : cap = k
    · rw [if_pos e]
      have hz : ¬ 0 < l.length - k := by have := hcap.1; clear hc hcell hn; omega
      exact ⟨⟨_, _, by rw [hl], ⟨by rw [hl]; exact hle, fun h => by cases h⟩, hb.drop k, fun h => absurd (hl ▸ h) hz⟩, fun g' off' n' cap'' hv hn' => by injection hv with h1 h2 h3; omega⟩
    · rw [if_neg e, Option.map_some, Nat.mul_one, add_at]
      refine ⟨⟨_, _, by rw [hl], ⟨by rw [hl]; exact hle, fun h => by cases h⟩, hb.drop k, fun h => ⟨g, off + k, rfl, hg, fun i hi => ?_⟩⟩, fun g' off' n' cap'' hv hn' => ?_⟩
      · have hi2 : k + i < l.length := by rw [hl] at hi; clear hc hn hcell hle hl; omega
        rw [Nat.add_assoc, hcell (k + i) hi2, List.getElem_drop]
      · injection hv with h1 h2 h3
        injection h1 with h1
        injection h1 with h1
        rw [hX, h1]
  · obtain rfl : k = 0 := by omega
    obtain rfl : l = [] := List.eq_nil_of_length_eq_zero (by omega)
    refine ⟨⟨_, cap - 0, rfl, ⟨Nat.zero_le _, fun h => ?_⟩, hb, fun h => absurd h (by simp)⟩, fun g' off' n' cap'' hv hn' => ?_⟩
    · cases a with
      | none => have := hcap.2 rfl; omega
      | some ad => split at h <;> cases h
    · injection hv with h1 h2 h3
      simp at h2
      omega
/-- The first k bytes, without the capacity behind them. -/
theorem bytes_head {R : Option Nat} {w : World} {a : Option Addr} {cap : Nat} {l : List Int} (h : BytesIn R w (.slice a l.length cap) l) (k m : Nat) (hk : k ≤ l.length) (hm : k ≤ m) (hm2 : m ≤ cap) : BytesIn R w (sliced a 0 k m 1) (l.take k) := by
  obtain ⟨⟨a', cap', hv, hcap, hb, hc⟩, hn⟩ := h
  injection hv with h1 h2 h3
  subst h1; subst h3
  have hl : (l.take k).length = k := by rw [List.length_take]; omega
  unfold sliced
  by_cases h0 : 0 < k
  · obtain ⟨g, off, rfl, hg, hcell⟩ := hc (by omega)
    have hX := hn g off _ _ rfl (by omega)
    rw [if_neg (by omega), Option.map_some, Nat.mul_one, add_at, Nat.sub_zero, Nat.sub_zero]
    refine ⟨⟨_, _, by rw [hl], ⟨by rw [hl]; exact hm, fun h => by cases h⟩, hb.take k, fun _ => ⟨g, off + 0, rfl, hg, fun i hi => ?_⟩⟩, fun g' off' n' cap'' hv hn' => ?_⟩
    · rw [hl] at hi
      rw [Nat.add_zero, hcell i (by omega), List.getElem_take]
    · injection hv with h1 h2 h3
      injection h1 with h1
      injection h1 with h1
      rw [hX, h1]
  · obtain rfl : k = 0 := by omega
    refine ⟨⟨_, m - 0, rfl, ⟨Nat.zero_le _, fun h => ?_⟩, hb.take 0, fun h => absurd h (by simp)⟩, fun g' off' n' cap'' hv hn' => ?_⟩
    · cases a with
      | none => have := hcap.2 rfl; omega
      | some ad => split at h <;> cases h
    · injection hv with h1 h2 h3
      simp at h2
      omega
theorem run_from (w : World) (a : Option Addr) (n cap k : Nat) (kl : IntKind) (hk : k ≤ n) : (Instr.sliceAt 42 (.slice a n cap) (some (.int kl k)) none none).run Try.prog w = .ok (sliced a k n cap 1) w := by
  simp [Instr.sliceAt, Instr.slice, run_underlying elem31, Instr.sliceBounds, run_sliceBound, sliced, hk]
theorem run_head (w : World) (a : Option Addr) (n cap k : Nat) (kl km : IntKind) (hk : k ≤ cap) : (Instr.sliceAt 42 (.slice a n cap) none (some (.int kl k)) (some (.int km k))).run Try.prog w = .ok (sliced a 0 k k 1) w := by
  simp [Instr.sliceAt, Instr.slice, run_underlying elem31, Instr.sliceBounds, run_sliceBound, sliced, hk]
/-- x[lo:] -/
theorem wpList_from {ops : Array Oper} {rest : List Oper} {o : Oper} {ac : Act} {w : World} {Q : Exit → Act → World → Prop} (R : Option Nat) (hgd : o.guard = none) (x lo : Operand) (ho : o.op = .slice 42 x (some lo) none none)
    (kl : IntKind) (a : Option Addr) (cap k : Nat) (l : List Int) (hx : ac.eval x = .slice a l.length cap) (hlo : ac.eval lo = .int kl k) (hv : BytesIn R w (.slice a l.length cap) l) (hk : k ≤ l.length)
    (h : ∀ a' cap', Hid (BytesIn R w (.slice a' (l.length - k) cap') (l.drop k)) → wpList Try.prog ops Q rest (ac.put o.dst (.slice a' (l.length - k) cap')) w) : wpList Try.prog ops Q (o :: rest) ac w :=
  wpList_plain hgd fun _ hK => by
    unfold Oper.wp execOp
    simp only [ho, hx, hlo, Option.map_some, Option.map_none, Sem.run_bind, run_from w a l.length cap k kl hk, Result.andThen_ok, Sem.run_pure]
    obtain ⟨a', cap', e⟩ := (bytes_from hv k hk).shape
    rw [List.length_drop] at e
    rw [e]
    exact hK _ _ (h _ _ (Lib.hid (e ▸ bytes_from hv k hk)))
/-- x[:hi:hi] -/
theorem wpList_head {ops : Array Oper} {rest : List Oper} {o : Oper} {ac : Act} {w : World} {Q : Exit → Act → World → Prop} (R : Option Nat) (hgd : o.guard = none) (x hi mx : Operand) (ho : o.op = .slice 42 x none (some hi) (some mx))
    (kl km : IntKind) (a : Option Addr) (cap k : Nat) (l : List Int) (hx : ac.eval x = .slice a l.length cap) (hhi : ac.eval hi = .int kl k) (hmx : ac.eval mx = .int km k) (hv : BytesIn R w (.slice a l.length cap) l) (hk : k ≤ l.length)
    (h : ∀ a' cap', Hid (BytesIn R w (.slice a' k cap') (l.take k)) → wpList Try.prog ops Q rest (ac.put o.dst (.slice a' k cap')) w) : wpList Try.prog ops Q (o :: rest) ac w := by
  have hcap : l.length ≤ cap := by
    obtain ⟨⟨a', cap', hv, hcap, _⟩, _⟩ := hv
    injection hv with h1 h2 h3
    omega
  exact wpList_plain hgd fun _ hK => by
    unfold Oper.wp execOp
    simp only [ho, hx, hhi, hmx, Option.map_some, Option.map_none, Sem.run_bind, run_head w a l.length cap k kl km (by omega), Result.andThen_ok, Sem.run_pure]
    have hB := bytes_head hv k k hk (Nat.le_refl _) (by omega)
    obtain ⟨a', cap', e⟩ := hB.shape
    rw [List.length_take, Nat.min_eq_left hk] at e
    rw [e] at hB ⊢
    exact hK _ _ (h _ _ (Lib.hid hB))
theorem Cur.parts {w : World} {g : Nat} {R : Option Nat} {e : Int} {v : Value} {l : List Int} (h : Cur w g R e v l) : ∃ a cap, v = .slice a l.length cap := by
  exact h.2.1.shape
theorem cur_set {w : World} {g : Nat} {R : Option Nat} {e : Int} {v v' : Value} {l l' : List Int} (h : Cur w g R e v l) (hv : BytesIn R w v' l') : Cur (w.setCell ⟨g, 1, none⟩ v') g R e v' l' := ⟨h.1.set 1 v', hv.only (Only.set g 1 w v') h.2.2.1, h.2.2.1, fun r hr => Nat.lt_of_lt_of_le (h.2.2.2 r hr) (Only.set g 1 w v').size⟩

theorem takeNum_bad (g : Nat) (most e : Int) (R : Option Nat) (v : Value) (l : List Int) (w : World) (h : Cur w g R 0 v l) (hl : l.length ≤ 30000) (hr : Hid (M.rNum most l = .bad e)) :
    Calls Try.prog 77 #[.pointer (some ⟨g, 0, none⟩), .int .u64 most] w fun r w' => r = .returned (.tuple #[.int .u64 0, .int .i64 e]) ∧ w = w' := by
  have c1 := h.1.cell (i := 1) rfl
  have HB := Lib.hid h.2.1.1
  clear h
  obtain ⟨x, n, er, hu⟩ : ∃ x n er, M.unv l 0 0 = (x, n, er) := ⟨_, _, _, rfl⟩
  have hr' := hr.out
  unfold M.rNum at hr'
  rw [hu] at hr'
  have HU := Lib.hid hu
  clear hu hr
  by_cases he : er = 0
  · subst he
    by_cases hm : most < x
    · simp only [if_true, if_pos hm] at hr'
      injection hr' with hr'
      subst hr'
      go_enter Try.func77, Try.ntmps77
      go_wp2_with fail
      refine (unvar_is v l x n 0 _ HB.out hl HU).mono ?_
      rintro r w' ⟨rfl, rfl⟩
      go_wp2_with fail
      go_ret2
      exact ⟨rfl, rfl⟩
    · simp only [if_true, if_neg hm] at hr'
      cases hr'
  · simp only [if_neg he] at hr'
    injection hr' with hr'
    subst hr'
    go_enter Try.func77, Try.ntmps77
    go_wp2_with fail
    refine (unvar_is v l x n er _ HB.out hl HU).mono ?_
    rintro r w' ⟨rfl, rfl⟩
    go_wp2_with fail
    go_ret2
    exact ⟨rfl, rfl⟩
theorem takeNum_got (g : Nat) (most x : Int) (R : Option Nat) (v : Value) (l rest : List Int) (w : World) (h : Cur w g R 0 v l) (hl : l.length ≤ 30000) (hr : Hid (M.rNum most l = .got x rest)) :
    Calls Try.prog 77 #[.pointer (some ⟨g, 0, none⟩), .int .u64 most] w fun r w' => r = .returned (.tuple #[.int .u64 x, .int .i64 0]) ∧ ∃ v', Cur w' g R 0 v' rest ∧ Only g w w' := by
  have c1 := h.1.cell (i := 1) rfl
  have f1 := h.1.frozen 1
  have HC := Lib.hid h
  obtain ⟨a, cap, rfl⟩ := h.parts
  clear h
  obtain ⟨x', n, er, hu⟩ : ∃ x n er, M.unv l 0 0 = (x, n, er) := ⟨_, _, _, rfl⟩
  have hr' := hr.out
  unfold M.rNum at hr'
  rw [hu] at hr'
  by_cases he : er = 0
  · subst he
    have hsz := M.unv_size HC.out.2.1.1.bytes hu
    by_cases hm : most < x'
    · simp only [if_true, if_pos hm] at hr'
      cases hr'
    · simp only [if_true, if_neg hm] at hr'
      injection hr' with e1 e2
      subst e1
      subst e2
      obtain ⟨k, rfl⟩ := Int.eq_ofNat_of_zero_le hsz.1
      have hk : k ≤ l.length := by omega
      have HU := Lib.hid hu
      clear hu hr hsz
      go_enter Try.func77, Try.ntmps77
      go_wp2_with fail
      refine (unvar_is _ l x' k 0 _ HC.out.2.1.1 hl HU).mono ?_
      rintro r w' ⟨rfl, rfl⟩
      go_wp2_with (refine wpList_from R rfl _ _ rfl .i64 a cap k l rfl rfl HC.out.2.1 hk ?_; intro a' cap' HV)
      go_ret2
      exact ⟨rfl, _, cur_set HC.out HV.out, Only.set g 1 w _⟩
  · simp only [if_neg he] at hr'
    cases hr'
end Go.Proofs.Yteggjihhjdeieaa
namespace Go.Proofs.Yteggjihhjdeieaa
open Go.RowKit

theorem cut_bad (g : Nat) (n : Int) (R : Option Nat) (v : Value) (l : List Int) (w : World) (h : Cur w g R 0 v l) (hl : l.length ≤ 30000) (hn : (l.length : Int) < n) :
    Calls Try.prog 82 #[.pointer (some ⟨g, 0, none⟩), .int .u64 n] w fun r w' => r = .returned (.tuple #[.slice none 0 0, .int .i64 4]) ∧ w = w' := by
  have c1 := h.1.cell (i := 1) rfl
  obtain ⟨a, cap, rfl⟩ := h.parts
  clear h
  go_enter Try.func82, Try.ntmps82
  go_wp2_with fail
  go_ret2
  exact ⟨rfl, rfl⟩
theorem cut_got (g k : Nat) (R : Option Nat) (v : Value) (l : List Int) (w : World) (h : Cur w g R 0 v l) (hl : l.length ≤ 30000) (hk : k ≤ l.length) :
    Calls Try.prog 82 #[.pointer (some ⟨g, 0, none⟩), .int .u64 k] w fun r w' => ∃ a' cap', r = .returned (.tuple #[.slice a' k cap', .int .i64 0]) ∧ BytesIn R w' (.slice a' k cap') (l.take k) ∧ (∃ v', Cur w' g R 0 v' (l.drop k)) ∧ Only g w w' := by
  have c1 := h.1.cell (i := 1) rfl
  have f1 := h.1.frozen 1
  have HC := Lib.hid h
  obtain ⟨a, cap, rfl⟩ := h.parts
  clear h
  have hki : ¬ (l.length : Int) < (k : Int) := by omega
  go_enter Try.func82, Try.ntmps82
  go_wp2_with (first
    | (refine wpList_head R rfl _ _ _ rfl .u64 .u64 a cap k l rfl rfl rfl HC.out.2.1 hk ?_; intro a1 cap1 HH)
    | (refine wpList_from R rfl _ _ rfl .u64 a cap k l rfl rfl HC.out.2.1 hk ?_; intro a2 cap2 HV))
  go_ret2
  exact ⟨_, _, rfl, HH.out.only (Only.set g 1 w _) HC.out.2.2.1, ⟨_, cur_set HC.out HV.out⟩, Only.set g 1 w _⟩

theorem takeByte_bad (g : Nat) (R : Option Nat) (v : Value) (w : World) (h : Cur w g R 0 v []) :
    Calls Try.prog 74 #[.pointer (some ⟨g, 0, none⟩)] w fun r w' => r = .returned (.tuple #[.int .u8 0, .int .i64 4]) ∧ w = w' := by
  have HC := Lib.hid h
  clear h
  go_enter Try.func74, Try.ntmps74
  go_wp2_with fail
  refine (cut_bad g 1 R v [] _ HC.out (by simp) (by simp)).mono ?_
  rintro r w' ⟨rfl, rfl⟩
  go_wp2_with fail
  go_ret2
  exact ⟨rfl, rfl⟩
theorem takeByte_got (g : Nat) (c : Int) (R : Option Nat) (v : Value) (l : List Int) (w : World) (h : Cur w g R 0 v (c :: l)) (hl : l.length + 1 ≤ 30000) :
    Calls Try.prog 74 #[.pointer (some ⟨g, 0, none⟩)] w fun r w' => r = .returned (.tuple #[.int .u8 c, .int .i64 0]) ∧ (∃ v', Cur w' g R 0 v' l) ∧ Only g w w' := by
  have HC := Lib.hid h
  clear h
  go_enter Try.func74, Try.ntmps74
  go_wp2_with fail
  refine (cut_got g 1 R v (c :: l) _ HC.out (by simpa using hl) (by simp)).mono ?_
  rintro r w' ⟨a', cap', rfl, hb, ⟨v', hc'⟩, ho⟩
  obtain ⟨⟨a2, cap2, hv, _, _, hcell⟩, _⟩ := hb
  obtain ⟨g2, off2, rfl, _, hcell⟩ := hcell (by simp)
  have q := hcell 0 (by simp)
  simp at hv
  obtain ⟨rfl, rfl⟩ := hv
  simp at q
  have HC2 := Lib.hid hc'
  have HO := Lib.hid ho
  clear hc' ho hcell
  go_wp2_with fail
  go_ret2
  exact ⟨rfl, ⟨_, HC2.out⟩, HO.out⟩
end Go.Proofs.Yteggjihhjdeieaa
namespace Go.Proofs.Yteggjihhjdeieaa
open Go.RowKit

theorem At.only {w w' : World} {g x : Nat} {l : List Int} (h : At w g l) (ho : Only x w w') (hn : g ≠ x) : At w' g l := (ho.block g h.lt hn).trans h
theorem str_of {w : World} {a : Option Addr} {n cap : Nat} {l : List Int} (h : BytesAt w (.slice a n cap) l) : (convert 42 9 (.slice a n cap)).run Try.prog w = .ok (.string (strOfNums l)) w := by
  obtain ⟨a', cap', hv, hcap, hb, hc⟩ := h
  simp only [Value.slice.injEq] at hv
  obtain ⟨rfl, rfl, rfl⟩ := hv
  by_cases h0 : 0 < l.length
  · obtain ⟨g, off, rfl, _, hcell⟩ := hc h0
    exact run_convert_bytes_arg (P := Try.prog) w 42 5 Try.underlying42 Try.underlying5 g off l.length cap l rfl (fun i hi => by rw [hcell i hi, List.getD_eq_getElem?_getD, List.getElem?_eq_getElem hi]; rfl) 9 Try.underlying9
  · obtain rfl : l = [] := List.eq_nil_of_length_eq_zero (by omega)
    show (convert 42 9 (.slice a 0 cap)).run Try.prog w = .ok (.string ByteArray.empty) w
    rw [run_convert_bytes_string w 42 9 5 _ 0 cap Try.underlying42 Try.underlying5 Try.underlying9]
    cases a <;> simp [Conv.bytesToString, loadCells]
    all_goals rfl
theorem okL_len {b : Bool} {l : List Int} (h : l.length = 8) : (okL b l).length = 8 := by
  unfold okL
  split
  · exact h
  · rfl
theorem at_new (w : World) : At (w.alloc (.cells (nm M.zero8) 24)) w.heap.size M.zero8 := at_alloc w M.zero8
theorem Cur.alloc {w : World} {g : Nat} {R : Option Nat} {e : Int} {v : Value} {l : List Int} (h : Cur w g R e v l) (o : Obj) : Cur (w.alloc o) g R e v l := h.below ((Below.refl _ _).alloc (Nat.le_refl _) _)
/-- What a name's read hands back where it fails, and where it does not. -/
def NameBad (w : World) (g : Nat) (R : Option Nat) (e : Int) (r : Ending) (w' : World) : Prop := ∃ m : List Int, m.length = 8 ∧ r = .returned (.tuple #[.agg (nm m), .int .i64 e]) ∧ (∃ v' l', Cur w' g R 0 v' l') ∧ Only g w w'
def NameGot (w : World) (g : Nat) (R : Option Nat) (m rest : List Int) (r : Ending) (w' : World) : Prop := r = .returned (.tuple #[.agg (nm m), .int .i64 0]) ∧ (∃ v', Cur w' g R 0 v' rest) ∧ Only g w w'
/-- What is stored into a block that the call made leaves what the caller knows. -/
theorem Only.new {g n : Nat} {w a b : World} (h : Only g w a) (hb : Only n a b) (hn : w.heap.size ≤ n) : Only g w b := ⟨hb.os.trans h.os, hb.tape.trans h.tape, hb.output.trans h.output, Nat.le_trans h.size hb.size, fun k hk hne => (hb.block k (Nat.lt_of_lt_of_le hk h.size) (by omega)).trans (h.block k hk hne)⟩

/-- A whole name is stored, and of the old blocks that one alone turns. -/
theorem wpList_put_name {ops : Array Oper} {rest : List Oper} {o : Oper} {a : Act} {w : World} {Q : Exit → Act → World → Prop} (hgd : o.guard = none) (x y : Operand) (ho : o.op = .store 24 x y) (g : Nat) (l m : List Int)
    (hx : a.eval x = .pointer (some ⟨g, 0, none⟩)) (hy : a.eval y = .agg (nm m)) (hat : At w g l) (hl : l.length = 8) (hm : m.length = 8)
    (h : ∀ w', Hid (At w' g m) → Hid (Only g w w') → wpList Try.prog ops Q rest (a.put o.dst undef) w') : wpList Try.prog ops Q (o :: rest) a w :=
  wpList_store_row hgd 24 x y ho g (nm m) hx hy 24 (nm l) hat (size23n hm) (by rw [nm_size, nm_size, hl, hm]) (nm_one m)
    (h _ (Lib.hid (at_setRow_same hat)) (Lib.hid ⟨rfl, rfl, rfl, by simp [World.setRow], fun k _ hk => by simp only [World.setRow, Array.getElem?_modify]; rw [if_neg (fun e => hk e.symm)]⟩))
theorem results_nameE {fn : Func} {p u : Tmp} (h : fn.results = #[.cell p 24, .tmp u]) (tmps : Array Value) (w : World) (g : Nat) (l : List Int) (hp : tmps.getD p undef = .pointer (some ⟨g, 0, none⟩)) (hat : At w g l) (hl : l.length = 8) :
    (results fn tmps).run Try.prog w = .ok (.tuple #[.agg (nm l), tmps.getD u undef]) w := results_name h tmps w g l hp hat hl
theorem takeName_empty (g : Nat) (R : Option Nat) (v : Value) (w : World) (h : Cur w g R 0 v []): Calls Try.prog 79 #[.pointer (some ⟨g, 0, none⟩)] w (NameBad w g R 4) := by
  have hz := zero23
  have HC := Lib.hid (h.alloc (.cells (nm M.zero8) 24))
  have HA := Lib.hid (at_new w)
  have HF := Lib.hid (h.far (Nat.le_refl _))
  clear h
  go_enter Try.func79, Try.ntmps79
  go_wp2_with fail
  refine (takeByte_bad g R v _ HC.out).mono ?_
  rintro r w' ⟨rfl, rfl⟩
  go_wp2_with (refine wpList_put_name rfl _ _ rfl w.heap.size M.zero8 M.zero8 rfl rfl HA.out rfl rfl ?_; intro w2 A2 O2)
  refine bodyPost_ret (results_name rfl _ _ w.heap.size M.zero8 rfl A2.out rfl) rfl ?_
  exact ⟨M.zero8, rfl, rfl, ⟨v, [], HC.out.only O2.out HF.out.1 HF.out.2⟩, ((Only.refl g w).alloc _).new O2.out (Nat.le_refl _)⟩
theorem takeName_big (g : Nat) (R : Option Nat) (c : Int) (v : Value) (l : List Int) (w : World) (h : Cur w g R 0 v (c :: l)) (hl : l.length + 1 ≤ 30000) (hc : 8 < c) : Calls Try.prog 79 #[.pointer (some ⟨g, 0, none⟩)] w (NameBad w g R 3) := by
  have hz := zero23
  have HC := Lib.hid (h.alloc (.cells (nm M.zero8) 24))
  have HA := Lib.hid (at_new w)
  have HF := Lib.hid (h.far (Nat.le_refl _))
  clear h
  go_enter Try.func79, Try.ntmps79
  go_wp2_with fail
  refine (takeByte_got g c R v l _ HC.out hl).mono ?_
  rintro r w1 ⟨rfl, ⟨v1, hc1⟩, ho1⟩
  have C1 := Lib.hid hc1
  have O1 := Lib.hid ho1
  have A1 := Lib.hid (HA.out.only ho1 HF.out.1.symm)
  clear hc1 ho1 HC HA
  go_wp2_with (refine wpList_put_name rfl _ _ rfl w.heap.size M.zero8 M.zero8 rfl rfl A1.out rfl rfl ?_; intro w2 A2 O2)
  refine bodyPost_ret (results_name rfl _ _ w.heap.size M.zero8 rfl A2.out rfl) rfl ?_
  exact ⟨M.zero8, rfl, rfl, ⟨v1, l, C1.out.only O2.out HF.out.1 HF.out.2⟩, (((Only.refl g w).alloc _).trans O1.out).new O2.out (Nat.le_refl _)⟩
theorem takeName_short (g : Nat) (R : Option Nat) (c : Int) (v : Value) (l : List Int) (w : World) (h : Cur w g R 0 v (c :: l)) (hl : l.length + 1 ≤ 30000) (hc0 : 0 ≤ c) (hc : c ≤ 8) (hs : (l.length : Int) < c) : Calls Try.prog 79 #[.pointer (some ⟨g, 0, none⟩)] w (NameBad w g R 4) := by
  have hz := zero23
  have HC := Lib.hid (h.alloc (.cells (nm M.zero8) 24))
  have HA := Lib.hid (at_new w)
  have HF := Lib.hid (h.far (Nat.le_refl _))
  clear h
  go_enter Try.func79, Try.ntmps79
  go_wp2_with fail
  refine (takeByte_got g c R v l _ HC.out hl).mono ?_
  rintro r w1 ⟨rfl, ⟨v1, hc1⟩, ho1⟩
  have C1 := Lib.hid hc1
  have O1 := Lib.hid ho1
  have A1 := Lib.hid (HA.out.only ho1 HF.out.1.symm)
  clear hc1 ho1 HC HA
  go_wp2_with fail
  refine (cut_bad g c R v1 l _ C1.out (by omega) hs).mono ?_
  rintro r w2 ⟨rfl, rfl⟩
  go_wp2_with (refine wpList_put_name rfl _ _ rfl w.heap.size M.zero8 M.zero8 rfl rfl A1.out rfl rfl ?_; intro w2 A2 O2)
  refine bodyPost_ret (results_name rfl _ _ w.heap.size M.zero8 rfl A2.out rfl) rfl ?_
  exact ⟨M.zero8, rfl, rfl, ⟨v1, l, C1.out.only O2.out HF.out.1 HF.out.2⟩, (((Only.refl g w).alloc _).trans O1.out).new O2.out (Nat.le_refl _)⟩
theorem takeName_none (g : Nat) (R : Option Nat) (v : Value) (l : List Int) (w : World) (h : Cur w g R 0 v (0 :: l)) (hl : l.length + 1 ≤ 30000) : Calls Try.prog 79 #[.pointer (some ⟨g, 0, none⟩)] w (NameGot w g R M.zero8 l) := by
  have hz := zero23
  have HC := Lib.hid (h.alloc (.cells (nm M.zero8) 24))
  have HA := Lib.hid (at_new w)
  have HF := Lib.hid (h.far (Nat.le_refl _))
  clear h
  go_enter Try.func79, Try.ntmps79
  go_wp2_with fail
  refine (takeByte_got g 0 R v l _ HC.out hl).mono ?_
  rintro r w1 ⟨rfl, ⟨v1, hc1⟩, ho1⟩
  have C1 := Lib.hid hc1
  have O1 := Lib.hid ho1
  have A1 := Lib.hid (HA.out.only ho1 HF.out.1.symm)
  clear hc1 ho1 HC HA
  go_wp2_with fail
  refine (cut_got g 0 R v1 l _ C1.out (by omega) (by omega)).mono ?_
  rintro r w2 ⟨a2, cap2, rfl, -, ⟨v2, hc2⟩, ho2⟩
  have C2 := Lib.hid hc2
  have O2 := Lib.hid ho2
  have A2 := Lib.hid (A1.out.only ho2 HF.out.1.symm)
  clear hc2 ho2
  go_wp2_with (refine wpList_put_name rfl _ _ rfl w.heap.size M.zero8 M.zero8 rfl rfl A2.out rfl rfl ?_; intro w3 A3 O3)
  refine bodyPost_ret (results_name rfl _ _ w.heap.size M.zero8 rfl A3.out rfl) rfl ?_
  exact ⟨rfl, ⟨v2, C2.out.only O3.out HF.out.1 HF.out.2⟩, ((((Only.refl g w).alloc _).trans O1.out).trans O2.out).new O3.out (Nat.le_refl _)⟩
set_option maxRecDepth 100000 in
/-- What is said of a name's text behind its length. -/
theorem takeName_word (g k : Nat) (R : Option Nat) (v : Value) (l : List Int) (b : Bool) (w : World) (h : Cur w g R 0 v ((k : Int) :: l)) (hl : l.length + 1 ≤ 30000) (hk0 : 0 < k) (hk8 : k ≤ 8) (hk : k ≤ l.length) (hb : Hid (M.isN (l.take k) = b)) :
    Calls Try.prog 79 #[.pointer (some ⟨g, 0, none⟩)] w fun r w' => r = .returned (.tuple #[.agg (nm (okL b (M.pad (l.take k)))), .int .i64 (okE b)]) ∧ (∃ v', Cur w' g R 0 v' (l.drop k)) ∧ Only g w w' := by
  have hz := zero23
  have HC := Lib.hid (h.alloc (.cells (nm M.zero8) 24))
  have HA := Lib.hid (at_new w)
  have HF := Lib.hid (h.far (Nat.le_refl _))
  clear h
  go_enter Try.func79, Try.ntmps79
  go_wp2_with fail
  refine (takeByte_got g k R v l _ HC.out hl).mono ?_
  rintro r w1 ⟨rfl, ⟨v1, hc1⟩, ho1⟩
  have C1 := Lib.hid hc1
  have O1 := Lib.hid ho1
  have A1 := Lib.hid (HA.out.only ho1 HF.out.1.symm)
  clear hc1 ho1 HC HA
  have hki : ¬ (8 : Int) < (k : Int) := by omega
  have hkz : ¬ (k : Int) = 0 := by omega
  go_wp2_with fail
  refine (cut_got g k R v1 l _ C1.out (by omega) hk).mono ?_
  rintro r w2 ⟨a2, cap2, rfl, hb2, ⟨v2, hc2⟩, ho2⟩
  have C2 := Lib.hid hc2
  have O2 := Lib.hid ho2
  have A2 := Lib.hid (A1.out.only ho2 HF.out.1.symm)
  have hcv := str_of hb2.1
  obtain ⟨s, hs⟩ : ∃ s, s = strOfNums (l.take k) := ⟨_, rfl⟩
  rw [← hs] at hcv
  have HS := Lib.hid hs
  have HT := Lib.hid hb2.1.bytes
  have HP := Lib.hid (okL_len (b := b) (M.pad_len (l.take k)))
  clear hc2 ho2 hb2 hs
  go_wp2_with fail
  refine (of_is s (l.take k) b _ HS HT (Lib.hid ((M.of_eq _).trans hb.out))).mono ?_
  rintro r w3 ⟨rfl, c3⟩
  have C3 := Lib.hid (C2.out.below c3)
  have A3 := Lib.hid (A2.out.below c3)
  have B3 := Lib.hid (Only.of_below (g := g) c3)
  clear c3
  go_wp2_with (refine wpList_put_name rfl _ _ rfl w.heap.size M.zero8 (okL b (M.pad (l.take k))) rfl rfl A3.out rfl HP.out ?_; intro w4 A4 O4)
  refine bodyPost_ret (results_name rfl _ _ w.heap.size _ rfl A4.out HP.out) rfl ?_
  exact ⟨rfl, ⟨v2, C3.out.only O4.out HF.out.1 HF.out.2⟩, (((((Only.refl g w).alloc _).trans O1.out).trans O2.out).trans B3.out).new O4.out (Nat.le_refl _)⟩
end Go.Proofs.Yteggjihhjdeieaa
