/- The contracts of Compare of package bytes, of Less of package name and of the reference. -/
import Derived.Test.YtkdpohgckefipaaRefText
namespace Go.Proofs.Ytkdpohgckefipaa
open Go.RowKit

theorem str_at (l : List Int) (i : Nat) (h : i < l.length) : (strOfNums l)[i]! = UInt8.ofNat (l[i]).toNat := by
  have hk : i < (strOfNums l).size := by rw [strOfNums_size]; exact h
  rw [getElem!_pos (strOfNums l) i hk]
  show (strOfNums l).data[i] = _
  rw [← Array.getElem_toList]
  simp [strOfNums_data]
theorem byte_ne {x y : Int} (hx : 0 ≤ x ∧ x < 256) (hy : 0 ≤ y ∧ y < 256) : ((UInt8.ofNat x.toNat) != (UInt8.ofNat y.toNat)) = decide (x ≠ y) := by
  rw [Bool.eq_iff_iff, bne_iff_ne, decide_eq_true_iff]
  refine ⟨fun h e => h (by rw [e]), fun h e => h ?_⟩
  have := congrArg UInt8.toNat e
  simp at this
  omega
theorem byte_lt {x y : Int} (hx : 0 ≤ x ∧ x < 256) (hy : 0 ≤ y ∧ y < 256) : (UInt8.ofNat x.toNat < UInt8.ofNat y.toNat) ↔ x < y := by
  rw [UInt8.lt_iff_toNat_lt]
  simp
  omega
theorem find_congr {p q : Nat → Bool} : ∀ (l : List Nat), (∀ x ∈ l, p x = q x) → l.find? p = l.find? q
  | [], _ => rfl
  | x :: l, h => by
    rw [List.find?_cons, List.find?_cons, h x (List.mem_cons_self ..), find_congr l (fun y hy => h y (List.mem_cons_of_mem _ hy))]
/-- What the bytes' comparison says of two lists of one length. -/
theorem cmp_less (a b : List Int) (hl : a.length = b.length) (ha : M.Bytes a) (hb : M.Bytes b) : decide (Extern.BytealgCompare.cmp (strOfNums a) (strOfNums b) < 0) = M.lessB a b := by
  unfold Extern.BytealgCompare.cmp M.lessB
  rw [strOfNums_size, strOfNums_size, ← hl, Nat.min_self]
  have hf : (List.range a.length).find? (fun i => (strOfNums a)[i]! != (strOfNums b)[i]!) = (List.range a.length).find? (fun i => decide (a.getD i 0 ≠ b.getD i 0)) := by
    apply find_congr
    intro i hi
    rw [List.mem_range] at hi
    rw [str_at a i hi, str_at b i (by omega), byte_ne (ha.at_ i hi) (hb.at_ i (by omega)), List.getD_eq_getElem?_getD, List.getD_eq_getElem?_getD, List.getElem?_eq_getElem hi, List.getElem?_eq_getElem (by omega)]
    rfl
  rw [hf]
  cases hq : (List.range a.length).find? (fun i => decide (a.getD i 0 ≠ b.getD i 0)) with
  | none =>
    have e : a = b := by
      apply List.ext_getElem hl
      intro i h1 h2
      have := List.find?_eq_none.1 hq i (List.mem_range.2 h1)
      simpa [List.getD_eq_getElem?_getD, List.getElem?_eq_getElem h1, List.getElem?_eq_getElem h2] using this
    subst e
    simp
  | some i =>
    have hi : i < a.length := List.mem_range.1 (List.mem_of_find?_eq_some hq)
    have hne := List.find?_some hq
    have hne2 : a[i] ≠ b[i] := by simpa [List.getD_eq_getElem?_getD, List.getElem?_eq_getElem hi, List.getElem?_eq_getElem (show i < b.length by omega)] using hne
    have hpre : a.take i = b.take i := by
      apply List.ext_getElem (by simp; omega)
      intro j h1 h2
      have hj : j < i := by simp at h1; omega
      have := (List.find?_range_eq_some.1 hq).2.2 j hj
      simpa [List.getD_eq_getElem?_getD, List.getElem?_eq_getElem (show j < a.length by omega), List.getElem?_eq_getElem (show j < b.length by omega)] using this
    have e1 : a = a.take i ++ a[i] :: a.drop (i + 1) := by rw [← List.drop_eq_getElem_cons hi, List.take_append_drop]
    have e2 : b = a.take i ++ b[i] :: b.drop (i + 1) := by rw [hpre, ← List.drop_eq_getElem_cons (by omega : i < b.length), List.take_append_drop]
    have hda : M.Bytes (a.drop (i + 1)) := fun x hx => ha x (List.mem_of_mem_drop hx)
    have hdb : M.Bytes (b.drop (i + 1)) := fun x hx => hb x (List.mem_of_mem_drop hx)
    have hdl : (a.drop (i + 1)).length = (b.drop (i + 1)).length := by simp; omega
    rw [decide_eq_decide]
    dsimp only
    rw [str_at a i hi, str_at b i (by omega)]
    by_cases hlt : a[i] < b[i]
    · rw [if_pos ((byte_lt (ha.at_ i hi) (hb.at_ i (by omega))).2 hlt)]
      have := M.num_lex (a.take i) _ _ _ _ hda hdb hdl hlt
      rw [← e1, ← e2] at this
      simp [this]
    · rw [if_neg (fun h => hlt ((byte_lt (ha.at_ i hi) (hb.at_ i (by omega))).1 h))]
      have := M.num_lex (a.take i) _ _ _ _ hdb hda hdl.symm (show b[i] < a[i] by omega)
      rw [← e1, ← e2] at this
      simp
      omega
theorem ext31 (args : Array Value) (w : World) : (callFunc 31 args).run Try.prog w = ((Extern.BytealgCompare.compare args).run Try.prog w).andThen fun v w' => .ok (.value v) w' :=
  run_callFunc_extern (P := Try.prog) Try.func31 (by kernel_rfl) (by kernel_rfl) (by kernel_rfl) (e := Extern.BytealgCompare.compare) (by kernel_rfl) args w
theorem bytes_at {w : World} {g : Nat} {l : List Int} (hl : l.length = 8) (h : At w g l) : (Extern.Bytes.bytesOf (.slice (some ⟨g, 0, none⟩) 8 8)).run Try.prog w = .ok (strOfNums l) w := by
  have := Lib.run_loadBytesX (P := Try.prog) w l ⟨g, 0, none⟩ .empty (fun j x hj => by
    have hjl : j < l.length := (List.getElem?_eq_some_iff.1 hj).1
    have e : (⟨g, 0, none⟩ : Addr).add j = ⟨g, j, none⟩ := by unfold Addr.add; split <;> simp_all
    rw [e, h.cell j hjl]
    rw [List.getElem?_eq_getElem hjl] at hj
    injection hj with hj
    rw [hj])
  rw [hl] at this
  have he : (⟨ByteArray.empty.data ++ (Lib.bytesOf l).toArray⟩ : ByteArray) = strOfNums l := by
    apply ByteArray.ext
    show (#[] : Array UInt8) ++ (Lib.bytesOf l).toArray = _
    simp [Lib.bytesOf, strOfNums]
  rw [he] at this
  exact this
theorem run_compare {w : World} {g1 g2 : Nat} {a b : List Int} (ha : a.length = 8) (hb : b.length = 8) (h1 : At w g1 a) (h2 : At w g2 b) :
    (Extern.BytealgCompare.compare #[.slice (some ⟨g1, 0, none⟩) 8 8, .slice (some ⟨g2, 0, none⟩) 8 8]).run Try.prog w = .ok (.int .i64 (Extern.BytealgCompare.cmp (strOfNums a) (strOfNums b))) w := by
  change Sem.run Try.prog (do pure (goInt (Extern.BytealgCompare.cmp (← Extern.Bytes.bytesOf (.slice (some ⟨g1, 0, none⟩) 8 8)) (← Extern.Bytes.bytesOf (.slice (some ⟨g2, 0, none⟩) 8 8))))) w = _
  simp only [Sem.run_bind, bytes_at ha h1, bytes_at hb h2, Result.andThen_ok, Sem.run_pure]
  rfl
theorem compare_is (g1 g2 : Nat) (a b : List Int) (r : Int) (w : World) (ha : a.length = 8) (hb : b.length = 8) (h1 : At w g1 a) (h2 : At w g2 b) (hr : Hid (Extern.BytealgCompare.cmp (strOfNums a) (strOfNums b) = r)) :
    Calls Try.prog 27 #[.slice (some ⟨g1, 0, none⟩) 8 8, .slice (some ⟨g2, 0, none⟩) 8 8] w fun e w' => e = .returned (.int .i64 r) ∧ w' = w := by
  have hx := ext31
  have hrun := run_compare ha hb h1 h2
  rw [hr.out] at hrun
  clear h1 h2
  go_enter Try.func27, Try.ntmps27
  go_wp2_with fail
  go_ret
  exact ⟨rfl, rfl⟩
theorem later_same {W : World} {t : Later W} {f : FuncId} {args : Array Value} {v : Value} (h : Calls Try.prog f args t.1 fun e w' => e = .returned v ∧ t.1 = w') :
    Calls Try.prog f args t.1 fun e w' => e = .returned v ∧ ∃ t' : Later W, w' = t'.1 :=
  h.mono fun _ _ ⟨he, hb⟩ => ⟨he, t, hb.symm⟩
theorem at_drewN {w : World} {g : Nat} {l : List Int} (h : At w g l) (n : Nat) : At (w.drewN n) g l := h
set_option maxRecDepth 100000 in
theorem less_is (a b : List Int) (r : Bool) (w : World) (ha : a.length = 8) (hb : b.length = 8) (hba : Hid (M.Bytes a)) (hbb : Hid (M.Bytes b)) (hr : Hid (M.lessB a b = r)) :
    Calls Try.prog 18 #[.agg (nm a), .agg (nm b)] w fun e w' => e = .returned (.bool r) ∧ Below w.heap.size w w' := by
  obtain ⟨c, hc⟩ : ∃ c, Extern.BytealgCompare.cmp (strOfNums a) (strOfNums b) = c := ⟨_, rfl⟩
  have HC := Lib.hid hc
  have HR := Lib.hid (show decide (c < 0) = r by rw [← hc, cmp_less a b (by omega) hba.out hbb.out]; exact hr.out)
  have HA := Lib.hid ha
  have HB := Lib.hid hb
  have H1 := Lib.hid ((at_alloc w a).below ((Below.refl _ _).alloc (Nat.le_refl _) (.cells (nm b) 23)))
  have H2 := Lib.hid (two_last w (.cells (nm a) 23) b)
  have H3 := Lib.hid (two_below w (.cells (nm a) 23) (.cells (nm b) 23))
  clear hc ha hb
  go_enter Try.func18, Try.ntmps18
  go_wp2_with fail
  go_quiet (refine Calls.quiet_of_same (compare_is w.heap.size (w.heap.size + 1) a b c _ HA.out HB.out (at_drewN H1.out _) (at_drewN H2.out _) HC))
  go_wp2_with fail
  go_ret
  exact ⟨ret_bool HR.out, below_drewN H3.out _⟩
set_option maxRecDepth 100000 in
theorem refLess_is (a b : List Int) (r : Bool) (w : World) (ha : a.length = 8) (hb : b.length = 8) (hba : Hid (M.Bytes a)) (hbb : Hid (M.Bytes b)) (hr : Hid (M.lessB a b = r)) :
    Calls Try.prog 19 #[.agg (nm a), .agg (nm b)] w fun e w' => e = .returned (.bool r) ∧ Below w.heap.size w w' := by
  obtain ⟨x, hx⟩ : ∃ x, M.num a = x := ⟨_, rfl⟩
  obtain ⟨y, hy⟩ : ∃ y, M.num b = y := ⟨_, rfl⟩
  have HX := Lib.hid hx
  have HY := Lib.hid hy
  have HR := Lib.hid (show decide (x < y) = r by rw [← hx, ← hy]; exact hr.out)
  have HA := Lib.hid ha
  have HB := Lib.hid hb
  have H1 := Lib.hid ((at_alloc w a).below ((Below.refl _ _).alloc (Nat.le_refl _) (.cells (nm b) 23)))
  have H2 := Lib.hid (two_last w (.cells (nm a) 23) b)
  have H3 := Lib.hid (two_below w (.cells (nm a) 23) (.cells (nm b) 23))
  clear hx hy ha hb
  go_enter Try.func19, Try.ntmps19
  go_wp2_with fail
  generalize (w.alloc (.cells (nm a) 23)).alloc (.cells (nm b) 23) = W at H1 H2 H3
  refine region_later (by kernel_rfl) (by kernel_rfl) ?_
  (go_big_quiet_want; refine quiet_load w.heap.size a _ rfl rfl H1.out HA.out ?_; go_simp; go_big_quiet_on)
  go_big_quiet_step (exact later_call (refNumber_is a x _ HA.out hba HX))
  (go_big_quiet_want; refine quiet_load (w.heap.size + 1) b _ rfl rfl H2.out HB.out ?_; go_simp; go_big_quiet_on)
  go_big_quiet_step (exact later_call (refNumber_is b y _ HB.out hbb HY))
  repeat go_big_quiet_step (fail)
  refine wpQuiet_nil ?_
  intro w' hw'
  have B := Lib.hid (H3.out.trans (hw'.mono H3.out.size))
  clear hw'
  go_wp2_with fail
  go_ret
  exact ⟨ret_bool HR.out, B.out⟩
end Go.Proofs.Ytkdpohgckefipaa
