/- The contracts of Name and Out of a writer, of Clone at bytes, and of From. -/
import Derived.Test.YteggjihhjdeieaaGreatWriter
import Derived.Lib.SliceRun
namespace Go.Proofs.YteggjihhjdeieaaGreat
open Go.RowKit

theorem bytesWorld_below (w : World) (e : TypeId) (s : ByteArray) : Below w.heap.size w (Lib.bytesWorld w e s) :=
  ⟨by unfold Lib.bytesWorld World.freeze; split <;> rfl, by unfold Lib.bytesWorld World.freeze; split <;> rfl, by unfold Lib.bytesWorld World.freeze; split <;> rfl, by rw [Lib.bytesWorld_size]; omega, fun k hk => Lib.bytesWorld_at_old w e s k hk⟩
theorem bytesWorld_bytes (w : World) (t : List Int) (cap : Nat) (hb : M.Bytes t) (hc : t.length ≤ cap) : BytesAt (Lib.bytesWorld w 5 (strOfNums t)) (.slice (some ⟨w.heap.size, 0, none⟩) t.length cap) t := by
  refine ⟨_, _, rfl, ⟨hc, fun h => by cases h⟩, hb, fun _ => ⟨w.heap.size, 0, rfl, by rw [Lib.bytesWorld_size]; omega, fun i hi => ?_⟩⟩
  have hsz : (strOfNums t).size = t.length := strOfNums_size t
  rw [Nat.zero_add, Lib.bytesWorld_cell w 5 _ i (by rw [hsz]; exact hi)]
  have hn := M.nums_str hb
  unfold M.nums at hn
  have hl : i < (strOfNums t).data.toList.length := by
    have := congrArg List.length hn
    rw [List.length_map] at this
    omega
  have h2 : ((strOfNums t).data.toList.map fun b => (b.toNat : Int))[i]? = t[i]? := by rw [hn]
  rw [List.getElem?_map, List.getElem?_eq_getElem hl, List.getElem?_eq_getElem hi] at h2
  simp only [Option.map_some, Option.some.injEq] at h2
  rw [List.getD_eq_getElem?_getD, List.getElem?_eq_getElem hl, ← h2]
  rfl
/-- A string's bytes, in a row of their own. -/
theorem wpList_bytesOf {ops : Array Oper} {rest : List Oper} {o : Oper} {a : Act} {w : World} {Q : Exit → Act → World → Prop} (hgd : o.guard = none) (x : Operand) (ho : o.op = .convert 9 33 x) (s : ByteArray) (t : List Int)
    (hx : a.eval x = .string s) (hs : s = strOfNums t) (hb : M.Bytes t)
    (h : ∀ cap w', Hid (BytesAt w' (.slice (some ⟨w.heap.size, 0, none⟩) t.length cap) t) → Hid (Below w.heap.size w w') → wpList Tryz.prog ops Q rest (a.put o.dst (.slice (some ⟨w.heap.size, 0, none⟩) t.length cap)) w') : wpList Tryz.prog ops Q (o :: rest) a w := by
  subst hs
  have hsz : (strOfNums t).size = t.length := strOfNums_size t
  have hr := Lib.run_convert_string_bytes (P := Tryz.prog) w 9 33 5 (strOfNums t) Tryz.underlying9 Tryz.underlying33 Tryz.underlying5
  rw [hsz] at hr
  exact wpList_plain hgd fun _ hK => by
    unfold Oper.wp execOp
    simp only [ho, hx, Sem.run_bind, hr, Result.andThen_ok, Sem.run_pure]
    exact hK _ _ (h _ _ (Lib.hid (bytesWorld_bytes w t _ hb (grownCap_ge w t.length 0 5))) (Lib.hid (bytesWorld_below w 5 _)))
set_option maxRecDepth 100000 in
theorem wname_is (g : Nat) (acc m : List Int) (w : World) (h : WrAt w g acc) (hm : m.length = 8) (hb : M.Bytes m) (hn : acc.length + 9 ≤ 30000) :
    Calls Tryz.prog 67 #[.pointer (some ⟨g, 0, none⟩), .agg (nm m)] w (Wrote w g (acc ++ ((M.text m).length : Int) :: M.text m)) := by
  obtain ⟨s, hs⟩ : ∃ s, s = strOfNums (M.text m) := ⟨_, rfl⟩
  have hsz : s.size = (M.text m).length := by rw [hs, strOfNums_size]
  have ht : (M.text m).length ≤ 8 := hm ▸ M.text_len m
  have HS := Lib.hid hs
  have HB := Lib.hid hb
  have HT := Lib.hid (M.text_bytes hb)
  have HM := Lib.hid hm
  have HL := Lib.hid h.lt
  have HA := Lib.hid (at_alloc w m)
  have HW := Lib.hid (h.below (new_below w (.cells (nm m) 24)))
  clear h hs hb hm
  go_enter Tryz.func67, Tryz.ntmps67
  go_wp2_with (refine wpList_load_name rfl _ rfl w.heap.size m rfl HA.out HM.out ?_)
  refine (text_is m s _ HM.out HB HS).mono ?_
  rintro r w1 ⟨rfl, c1⟩
  have H1 := Lib.hid (HW.out.below c1)
  have B1 := Lib.hid (step_ (new_below w (.cells (nm m) 24)) c1)
  clear c1
  go_wp2_with fail
  refine (wbyte_is g acc (M.text m).length _ H1.out (by omega) (by omega) (by omega)).mono ?_
  rintro r w2 ⟨⟨y, rfl⟩, hw2, hb2⟩
  have H2 := Lib.hid hw2
  have B2 := Lib.hid (below_step B1.out hb2 (Nat.le_of_lt HL.out))
  clear hw2 hb2
  go_wp2_with (refine wpList_bytesOf rfl _ rfl s (M.text m) rfl HS.out HT.out ?_; intro cap3 w3 V3 B3; have H3 := Lib.hid (H2.out.below B3.out); have S3 := Lib.hid H2.out.lt)
  refine (add_is g (acc ++ [((M.text m).length : Int)]) (M.text m) _ _ H3.out V3.out (by simp; omega)).mono ?_
  rintro r w4 ⟨⟨y, rfl⟩, hw4, hb4⟩
  rw [List.append_assoc] at hw4
  have H4 := Lib.hid hw4
  have B4 := Lib.hid ((B2.out.trans (B3.out.mono (Nat.le_of_lt S3.out))).trans hb4)
  clear hw4 hb4
  go_wp2_with fail
  go_end0
  exact ⟨⟨_, rfl⟩, H4.out, B4.out⟩
set_option maxRecDepth 100000 in
theorem wname_none (m : List Int) (w : World) (hm : m.length = 8) (hb : M.Bytes m) :
    Calls Tryz.prog 67 #[.pointer none, .agg (nm m)] w fun r w' => (∃ x, r = .returned x) ∧ Below w.heap.size w w' := by
  obtain ⟨s, hs⟩ : ∃ s, s = strOfNums (M.text m) := ⟨_, rfl⟩
  have hsz : s.size = (M.text m).length := by rw [hs, strOfNums_size]
  have ht : (M.text m).length ≤ 8 := hm ▸ M.text_len m
  have HS := Lib.hid hs
  have HB := Lib.hid hb
  have HT := Lib.hid (M.text_bytes hb)
  have HM := Lib.hid hm
  have HA := Lib.hid (at_alloc w m)
  clear hs hb hm
  go_enter Tryz.func67, Tryz.ntmps67
  go_wp2_with (refine wpList_load_name rfl _ rfl w.heap.size m rfl HA.out HM.out ?_)
  refine (text_is m s _ HM.out HB HS).mono ?_
  rintro r w1 ⟨rfl, c1⟩
  have B1 := Lib.hid (step_ (new_below w (.cells (nm m) 24)) c1)
  clear c1
  go_wp2_with fail
  refine (wbyte_none (M.text m).length _).mono ?_
  rintro r w2 ⟨⟨y, rfl⟩, hb2⟩
  have B2 := Lib.hid (step_ B1.out hb2)
  clear hb2
  go_wp2_with (refine wpList_bytesOf rfl _ rfl s (M.text m) rfl HS.out HT.out ?_; intro cap3 w3 V3 B3)
  refine (add_none _ _).mono ?_
  rintro r w4 ⟨⟨y, rfl⟩, rfl⟩
  go_wp2_with fail
  go_end0
  exact ⟨⟨_, rfl⟩, step_ B2.out B3.out⟩
set_option maxRecDepth 100000 in
theorem clone_is (v : Value) (l : List Int) (w : World) (h : BytesAt w v l) (hl : l.length ≤ 30000) : Calls Tryz.prog 24 #[v] w (GivesBytes w l) := by
  have HV := Lib.hid (h.below (new_below w (.cells #[] 5)))
  have HY := Lib.hid h.bytes
  have HL := Lib.hid hl
  clear hl
  obtain ⟨a, cap, rfl, hcap, -, hc⟩ := h
  have HE := Lib.hid (owns_empty w w.heap.size (Nat.le_refl _))
  have hq : ∀ (W : World) (a : Option Addr) (n c : Nat), (binOp .eql 33 (.slice a n c) (.slice none 0 0)).run Tryz.prog W = .ok (.bool a.isNone) W := fun W a n c => Lib.run_eql_slice_nil W _ _ _ _ _ _ _ Tryz.underlying33
  cases a with
  | none =>
    have h0 : l = [] := by
      cases l with
      | nil => rfl
      | cons c r => obtain ⟨g, off, ha, _⟩ := hc (by simp); cases ha
    subst h0
    obtain rfl := hcap.2 rfl
    clear hc hcap
    go_enter Tryz.func24, Tryz.ntmps24
    go_wp2_with fail
    go_ret
    exact ⟨_, rfl, bytes_nil _, Below.refl _ _⟩
  | some ad =>
    clear hc hcap
    go_enter Tryz.func24, Tryz.ntmps24
    go_wp2_with ((at_builtin; refine app_bytes _ rfl (.tmp 5) (.tmp 6) rfl w.heap.size _ _ [] l rfl HE.out rfl HV.out (by simpa using HL.out) (by simp) ?_; intro v1 w1 hown1 hbel1; have V1 := Lib.hid (bytes_of_owns hown1 (show M.Bytes ([] ++ l) from HY.out)); have B1 := Lib.hid hbel1; clear hown1 hbel1))
    go_ret
    exact ⟨_, rfl, V1.out, (new_below w _).trans B1.out⟩
theorem out_is (g : Nat) (l : List Int) (w : World) (h : WrAt w g l) (hl : l.length ≤ 30000) : Calls Tryz.prog 35 #[.pointer (some ⟨g, 0, none⟩)] w (GivesBytes w l) := by
  obtain ⟨v, hb, hown, hby⟩ := h
  have c0 := hb.cell (i := 0) rfl
  have HV := Lib.hid (bytes_of_owns hown hby)
  clear hb hown hby
  go_enter Tryz.func35, Tryz.ntmps35
  go_wp2_with fail
  refine (clone_is v l _ HV.out hl).mono ?_
  rintro r w1 ⟨v1, rfl, hv, hb⟩
  have V1 := Lib.hid hv
  have B1 := Lib.hid hb
  clear hv hb
  go_wp2_with fail
  go_ret
  exact ⟨_, rfl, V1.out, B1.out⟩
theorem out_none (w : World) : Calls Tryz.prog 35 #[.pointer none] w fun r w' => r = .returned (.slice none 0 0) ∧ w = w' := by
  go_enter Tryz.func35, Tryz.ntmps35
  go_wp2_with fail
  go_ret
  exact ⟨rfl, rfl⟩
theorem from_is (v : Value) (l : List Int) (w : World) (h : BytesAt w v l) (hl : l.length ≤ 30000) :
    Calls Tryz.prog 11 #[v] w fun r w' => ∃ g R, r = .returned (.pointer (some ⟨g, 0, none⟩)) ∧ w.heap.size ≤ g ∧ CurAt w' g R 0 l ∧ Below w.heap.size w w' := by
  have HV := Lib.hid h
  clear h
  go_enter Tryz.func11, Tryz.ntmps11
  go_wp2_with fail
  refine (clone_is v l _ HV.out hl).mono ?_
  rintro r w1 ⟨v1, rfl, hv, hb⟩
  obtain ⟨a, cap, rfl⟩ : ∃ a cap, v1 = .slice a l.length cap := by obtain ⟨a, cap, e, _⟩ := hv; exact ⟨a, cap, e⟩
  have V1 := Lib.hid hv
  have B1 := Lib.hid hb
  clear hv hb
  go_wp2_with fail
  go_ret
  obtain ⟨R, hR, hlt⟩ := V1.out.in_
  refine ⟨w1.heap.size, R, rfl, B1.out.size, ⟨_, l, ⟨blk_alloc w1 62 [.int .i64 0, .slice a l.length cap], hR.alloc _, fun e => Nat.lt_irrefl _ (hlt _ e), fun r hr => by have := hlt r hr; simp; omega⟩, hl, fun _ => rfl, fun h => absurd rfl h⟩, step_ B1.out (new_below w1 _)⟩
end Go.Proofs.YteggjihhjdeieaaGreat
