/- A writer leaves what is no row of bytes as it was: the contracts of Byte, Num and Name of a writer once more, with that; the contract of Write of package key. -/
import Derived.Test.YtnpbmihbmilkbaaGreatG16
import Derived.Test.YtnpbmihbmilkbaaGreatG17
namespace Go.Proofs.YtnpbmihbmilkbaaGreat
open Go.RowKit
/-- Blocks that hold no row of bytes are as they were. -/
def KeepA (w w' : World) : Prop := ∀ k t cs, t ≠ 5 → Blk w k t cs → Blk w' k t cs
/-- .. but for block g. -/
def KeepT (g : Nat) (w w' : World) : Prop := ∀ k t cs, t ≠ 5 → k ≠ g → Blk w k t cs → Blk w' k t cs
theorem KeepT.trans {g : Nat} {a b c : World} (h : KeepT g a b) (k : KeepT g b c) : KeepT g a c := fun i t cs ht hi hb => k i t cs ht hi (h i t cs ht hi hb)
theorem KeepT.of_below {g : Nat} {a b : World} (h : Below a.heap.size a b) : KeepT g a b := fun _ _ _ _ _ hb => hb.below h
theorem KeepT.of_only {g : Nat} {a b : World} (h : Only g a b) : KeepT g a b := fun _ _ _ _ hi hb => hb.only h hi
theorem KeepA.toT {g : Nat} {a b : World} (h : KeepA a b) : KeepT g a b := fun i t cs ht _ hb => h i t cs ht hb
theorem KeepA.refl (a : World) : KeepA a a := fun _ _ _ _ hb => hb
theorem keepA_grown {w w' : World} {base n : Nat} {v : Value} {xs : List Value} (h : w.ownsRow base 5 1 v n xs) (hg : w.grownBy w' v.ownBlock) : KeepA w w' := fun k t cs ht hb => by
  refine (hg.block k hb.lt (fun e => ?_)).trans hb
  rcases h.2 with ⟨rfl, _⟩ | ⟨r, cap, cur, rfl, _, hr, _⟩
  · cases e
  · have e' : k = r := by simpa [Value.ownBlock] using e
    subst e'
    unfold Blk at hb
    rw [hr] at hb
    injection hb with hb
    injection hb with _ hb
    exact ht hb.symm
theorem app_bytesK {ops : Array Oper} {rest : List Oper} {o : Oper} {a : Act} {Q : Exit → Act → World → Prop} (w : World) (hgd : o.guard = none) (s x : Operand)
    (ho : o.op = .call { callee := .builtin .append, args := #[s, x], argTypes := #[74, 74] }) (base : Nat) (v u : Value) (acc l : List Int)
    (hs : a.eval s = v) (hown : w.ownsRow base 5 1 v acc.length (acc.map (Value.int .u8))) (hx : a.eval x = u) (hu : BytesAt w u l) (hn : acc.length + l.length ≤ 30000) (hbase : base ≤ w.heap.size)
    (h : ∀ v' w', w'.ownsRow base 5 1 v' (acc ++ l).length ((acc ++ l).map (Value.int .u8)) → Below base w w' → KeepA w w' → wpList Tryz.prog ops Q rest (a.put o.dst v') w') :
    wpList Tryz.prog ops Q (o :: rest) a w := by
  obtain ⟨i0, hi, hz0, hz1, hz2⟩ := info_parts info5
  obtain ⟨ad, cap, rfl, hcap, _, hc⟩ := hu
  rcases ad with _ | ad
  · have h0 : l = [] := by
      cases l with
      | nil => rfl
      | cons c r => obtain ⟨g, off, ha, _⟩ := hc (by simp); cases ha
    subst h0
    have hc0 := hcap.2 rfl
    subst hc0
    refine wpList_append_own_none hgd s x 74 ho base 5 i0 1 Tryz.underlying74 hi v _ _ hs hown hx ?_
    exact h v w (by simpa using hown) (Below.refl _ _) (KeepA.refl _)
  · refine wpList_append_own _ hgd s x 74 ho base 5 i0 (.int .u8 0) 1 1 Tryz.underlying74 hi hz0 hz1 hz2 rfl (by decide) v _ _ hs hown ad l.length cap (l.map (Value.int .u8)) hx (by simp) ?_ ?_ ?_ ?_ hbase ?_
    · intro j y hy
      have hj : j < l.length := by
        rcases Nat.lt_or_ge j l.length with h | h
        · exact h
        · rw [List.getElem?_eq_none (by simpa using h)] at hy; cases hy
      obtain ⟨g, off, ha, _, hcell⟩ := hc (by omega)
      obtain rfl := Option.some.inj ha
      rw [add_at, hcell j hj]
      simp [hj] at hy
      rw [← hy]
    · intro y hy
      obtain ⟨c, _, rfl⟩ := List.mem_map.1 hy
      rfl
    · unfold maxLen; omega
    · omega
    · intro v' w' h1 h2 _
      refine h v' w' (by simpa using h1) ?_ (keepA_grown hown h2)
      exact (Below.refl base w).grown h2 hbase (fun k hk => (hown.lt k hk).1)
/-- What a write comes to. -/
def WroteK (w : World) (g : Nat) (l : List Int) (r : Ending) (w' : World) : Prop := (∃ x, r = .returned x) ∧ WrAt w' g l ∧ Below g w w' ∧ KeepT g w w'
theorem addK_is (g : Nat) (acc l : List Int) (u : Value) (w : World) (h : WrAt w g acc) (hu : BytesAt w u l) (hn : acc.length + l.length ≤ 30000) :
    Calls Tryz.prog 139 #[.pointer (some ⟨g, 0, none⟩), u] w (WroteK w g (acc ++ l)) := by
  have hgl := h.lt
  obtain ⟨v, hb, hown, hby⟩ := h
  have c0 := hb.cell (i := 0) rfl
  have HB := Lib.hid hb
  have HO := Lib.hid hown
  have HU := Lib.hid hu
  have HY := Lib.hid (hby.app hu.bytes)
  clear hb hown hu hby
  go_enter Tryz.func139, Tryz.ntmps139
  go_wp2_with ((at_builtin; refine app_bytesK _ rfl (.tmp 10) (.tmp 11) rfl (g + 1) _ _ acc l rfl HO.out rfl HU.out hn hgl ?_; intro v1 w1 hown1 hbel1 hk1; have KP := Lib.hid hk1; have B1 := Lib.hid (show Blk w1 g 152 [v] from (hbel1.block g (Nat.lt_succ_self g)).trans HB.out); have HO1 := Lib.hid hown1; have HL1 := Lib.hid (hbel1.mono (Nat.le_succ g)); obtain ⟨a1, cap1, rfl⟩ := owns_shape hown1; have d0 := B1.out.cell (i := 0) rfl; have f0 := B1.out.frozen 0; clear hown1 hbel1 hk1))
  go_end0
  refine ⟨⟨_, rfl⟩, ⟨_, B1.out.set 0 _, ?_, HY.out⟩, HL1.out.trans ((Only.set g 0 w1 _).below (Nat.le_refl _) (Nat.le_of_lt B1.out.lt)), KP.out.toT.trans (KeepT.of_only (Only.set g 0 w1 _))⟩
  simpa using owns_only HO1.out (Only.set g 0 w1 _) (Nat.lt_succ_self g)
theorem wnumK_is (g : Nat) (acc : List Int) (x : Int) (w : World) (h : WrAt w g acc) (h0 : 0 ≤ x) (h1 : x < 18446744073709551616) (hn : acc.length + 10 ≤ 30000) :
    Calls Tryz.prog 124 #[.pointer (some ⟨g, 0, none⟩), .int .u64 x] w (WroteK w g (acc ++ M.var x)) := by
  have HW := Lib.hid h
  clear h
  have hl := M.var_ten x h0 h1
  go_enter Tryz.func124, Tryz.ntmps124
  go_wp2_with fail
  refine (var_is x _ h0 h1).mono ?_
  rintro r w1 ⟨v, rfl, hv, hb⟩
  have H1 := Lib.hid (HW.out.below hb)
  have V1 := Lib.hid hv
  have B1 := Lib.hid hb
  clear hv hb
  go_wp2_with fail
  refine (addK_is g acc (M.var x) v _ H1.out V1.out (by omega)).mono ?_
  rintro r w2 ⟨⟨y, rfl⟩, hw2, hb2, hk2⟩
  have H2 := Lib.hid hw2
  have B2 := Lib.hid hb2
  have K2 := Lib.hid hk2
  clear hw2 hb2 hk2
  go_wp2_with fail
  go_end0
  exact ⟨⟨_, rfl⟩, H2.out, below_step B1.out B2.out (Nat.le_of_lt HW.out.lt), (KeepT.of_below B1.out).trans K2.out⟩
theorem wbyteK_is (g : Nat) (acc : List Int) (c : Int) (w : World) (h : WrAt w g acc) (h0 : 0 ≤ c) (h1 : c < 256) (hn : acc.length + 1 ≤ 30000) :
    Calls Tryz.prog 123 #[.pointer (some ⟨g, 0, none⟩), .int .u8 c] w (WroteK w g (acc ++ [c])) := by
  have HL := Lib.hid h.lt
  have HW := Lib.hid (h.below (new_below w (.cells #[.int .u8 c] 5)))
  have V1 := Lib.hid (bytes_one w c h0 h1)
  clear h
  go_enter Tryz.func123, Tryz.ntmps123
  go_wp2_with fail
  refine (addK_is g acc [c] _ _ HW.out V1.out (by simpa using hn)).mono ?_
  rintro r w2 ⟨⟨y, rfl⟩, hw2, hb2, hk2⟩
  have H2 := Lib.hid hw2
  have B2 := Lib.hid hb2
  have K2 := Lib.hid hk2
  clear hw2 hb2 hk2
  go_wp2_with fail
  go_end0
  exact ⟨⟨_, rfl⟩, H2.out, below_step (new_below w _) B2.out (Nat.le_of_lt HL.out), (KeepT.of_below (new_below w _)).trans K2.out⟩
set_option maxRecDepth 100000 in
theorem wnameK_is (g : Nat) (acc m : List Int) (w : World) (h : WrAt w g acc) (hm : m.length = 8) (hb : M.Bytes m) (hn : acc.length + 9 ≤ 30000) :
    Calls Tryz.prog 125 #[.pointer (some ⟨g, 0, none⟩), .agg (nm m)] w (WroteK w g (acc ++ ((M.text m).length : Int) :: M.text m)) := by
  obtain ⟨s, hs⟩ : ∃ s, s = strOfNums (M.text m) := ⟨_, rfl⟩
  have hsz : s.size = (M.text m).length := by rw [hs, strOfNums_size]
  have ht : (M.text m).length ≤ 8 := hm ▸ M.text_len m
  have HS := Lib.hid hs
  have HB := Lib.hid hb
  have HT := Lib.hid (M.text_bytes hb)
  have HM := Lib.hid hm
  have HL := Lib.hid h.lt
  have HA := Lib.hid (at_alloc w m)
  have HW := Lib.hid (h.below (new_below w (.cells (nm m) 40)))
  clear h hs hb hm
  go_enter Tryz.func125, Tryz.ntmps125
  go_wp2_with (refine wpList_load_name rfl _ rfl w.heap.size m rfl HA.out HM.out ?_)
  refine (text_is m s _ HM.out HB HS).mono ?_
  rintro r w1 ⟨rfl, c1⟩
  have H1 := Lib.hid (HW.out.below c1)
  have B1 := Lib.hid (step_ (new_below w (.cells (nm m) 40)) c1)
  clear c1
  go_wp2_with fail
  refine (wbyteK_is g acc (M.text m).length _ H1.out (by omega) (by omega) (by omega)).mono ?_
  rintro r w2 ⟨⟨y, rfl⟩, hw2, hb2, hk2⟩
  have H2 := Lib.hid hw2
  have B2 := Lib.hid (below_step B1.out hb2 (Nat.le_of_lt HL.out))
  have K2 := Lib.hid ((KeepT.of_below B1.out).trans hk2)
  clear hw2 hb2 hk2
  go_wp2_with (refine wpList_bytesOf rfl _ rfl s (M.text m) rfl HS.out HT.out ?_; intro cap3 w3 V3 B3; have H3 := Lib.hid (H2.out.below B3.out); have S3 := Lib.hid H2.out.lt)
  refine (addK_is g (acc ++ [((M.text m).length : Int)]) (M.text m) _ _ H3.out V3.out (by simp; omega)).mono ?_
  rintro r w4 ⟨⟨y, rfl⟩, hw4, hb4, hk4⟩
  rw [List.append_assoc] at hw4
  have H4 := Lib.hid hw4
  have B4 := Lib.hid ((B2.out.trans (B3.out.mono (Nat.le_of_lt S3.out))).trans hb4)
  have K4 := Lib.hid ((K2.out.trans (KeepT.of_below B3.out)).trans hk4)
  clear hw4 hb4 hk4
  go_wp2_with fail
  go_end0
  exact ⟨⟨_, rfl⟩, H4.out, B4.out, K4.out⟩
theorem kenc4 {k : Ky} (h : k.s = 4) : kenc k = [k.s] ++ M.var k.c := by unfold kenc; rw [if_pos h, List.append_nil]
theorem kenc1 {k : Ky} (h : k.s = 1) : kenc k = [k.s] ++ (M.var k.c ++ ((((M.text k.m).length : Int) :: M.text k.m) ++ ([k.r] ++ M.var k.q))) := by unfold kenc; rw [if_neg (by omega), if_pos h]
theorem kenc2 {k : Ky} (h4 : ¬ k.s = 4) (h1 : ¬ k.s = 1) : kenc k = [k.s] ++ (M.var k.c ++ ((((M.text k.m).length : Int) :: M.text k.m) ++ [k.r])) := by unfold kenc; rw [if_neg h4, if_neg h1]; simp
theorem wrap16 {k : Ky} (h : k.Ok) : IntKind.u64.wrap k.c = k.c := by have := h.c0; have := h.c1; rw [IntKind.wrap_u64]; omega
theorem wrap32 {k : Ky} (h : k.Ok) : IntKind.u64.wrap k.q = k.q := by have := h.q0; have := h.q1; rw [IntKind.wrap_u64]; omega
/- WRITES -/
set_option maxRecDepth 100000 in
theorem kwrite4 (g : Nat) (acc : List Int) (k : Ky) (w : World) (h : WrAt w g acc) (hk : k.Ok) (hn : acc.length + 40 ≤ 30000) (h4 : k.s = 4) :
    Calls Tryz.prog 122 #[.pointer (some ⟨g, 0, none⟩), .agg k.cells.toArray] w (WroteK w g (acc ++ kenc k)) := by
  have Q0 := Lib.hid (blk_alloc w 48 k.cells)
  have B0 := Lib.hid (new_below w (.cells k.cells.toArray 48))
  have HL := Lib.hid h.lt
  have HW := Lib.hid (h.below B0.out)
  have HK := Lib.hid hk
  have NE := Lib.hid (show w.heap.size ≠ g from fun e => Nat.lt_irrefl _ (e ▸ h.lt))
  have VC := Lib.hid (M.var_ten k.c hk.c0 (by have := hk.c1; omega))
  have VQ := Lib.hid (M.var_ten k.q hk.q0 (by have := hk.q1; omega))
  have TL := Lib.hid (show (M.text k.m).length ≤ 8 from hk.ml ▸ M.text_len k.m)
  have c0 := hk.c0
  have q0 := hk.q0
  have a0 := Q0.out.cell (kc0 k)
  have x16 := wrap16 hk
  have x32 := wrap32 hk
  have Zh4 := Lib.hid h4
  clear h4
  clear h hk
  go_enter Tryz.func122, Tryz.ntmps122
  go_wp2_with fail
  refine (wbyteK_is g acc k.s _ HW.out HK.out.s0 HK.out.s1 (by omega)).mono ?_
  rintro r w1 ⟨⟨y, rfl⟩, hw1, hb1, hk1⟩
  have H1 := Lib.hid hw1
  have Q1 := Lib.hid (hk1 _ _ _ (by decide) NE.out Q0.out)
  have B1 := Lib.hid (below_step B0.out hb1 (Nat.le_of_lt HL.out))
  have K1 := Lib.hid ((KeepT.of_below B0.out).trans hk1)
  have b1 := Q1.out.cell (kc1 k)
  clear hw1 hb1 hk1 a0
  go_wp2_with fail
  refine (wnumK_is g (acc ++ [k.s]) k.c _ H1.out c0 (by have := HK.out.c1; omega) (by simp; omega)).mono ?_
  rintro r w2 ⟨⟨y, rfl⟩, hw2, hb2, hk2⟩
  have H2 := Lib.hid hw2
  have Q2 := Lib.hid (hk2 _ _ _ (by decide) NE.out Q1.out)
  have B2 := Lib.hid (B1.out.trans hb2)
  have K2 := Lib.hid (K1.out.trans hk2)
  have a2 := Q2.out.cell (kc0 k)
  have h4 := Zh4.out
  clear hw2 hb2 hk2 b1
  go_wp2_with fail
  go_end0
  exact ⟨⟨_, rfl⟩, by rw [kenc4 h4, ← List.append_assoc]; exact H2.out, B2.out, K2.out⟩
set_option maxRecDepth 100000 in
theorem kwrite2 (g : Nat) (acc : List Int) (k : Ky) (w : World) (h : WrAt w g acc) (hk : k.Ok) (hn : acc.length + 40 ≤ 30000) (h4 : ¬ k.s = 4) (h1 : ¬ k.s = 1) :
    Calls Tryz.prog 122 #[.pointer (some ⟨g, 0, none⟩), .agg k.cells.toArray] w (WroteK w g (acc ++ kenc k)) := by
  have Q0 := Lib.hid (blk_alloc w 48 k.cells)
  have B0 := Lib.hid (new_below w (.cells k.cells.toArray 48))
  have HL := Lib.hid h.lt
  have HW := Lib.hid (h.below B0.out)
  have HK := Lib.hid hk
  have NE := Lib.hid (show w.heap.size ≠ g from fun e => Nat.lt_irrefl _ (e ▸ h.lt))
  have VC := Lib.hid (M.var_ten k.c hk.c0 (by have := hk.c1; omega))
  have VQ := Lib.hid (M.var_ten k.q hk.q0 (by have := hk.q1; omega))
  have TL := Lib.hid (show (M.text k.m).length ≤ 8 from hk.ml ▸ M.text_len k.m)
  have c0 := hk.c0
  have q0 := hk.q0
  have a0 := Q0.out.cell (kc0 k)
  have x16 := wrap16 hk
  have x32 := wrap32 hk
  have Zh4 := Lib.hid h4
  clear h4
  have Zh1 := Lib.hid h1
  clear h1
  clear h hk
  go_enter Tryz.func122, Tryz.ntmps122
  go_wp2_with fail
  refine (wbyteK_is g acc k.s _ HW.out HK.out.s0 HK.out.s1 (by omega)).mono ?_
  rintro r w1 ⟨⟨y, rfl⟩, hw1, hb1, hk1⟩
  have H1 := Lib.hid hw1
  have Q1 := Lib.hid (hk1 _ _ _ (by decide) NE.out Q0.out)
  have B1 := Lib.hid (below_step B0.out hb1 (Nat.le_of_lt HL.out))
  have K1 := Lib.hid ((KeepT.of_below B0.out).trans hk1)
  have b1 := Q1.out.cell (kc1 k)
  clear hw1 hb1 hk1 a0
  go_wp2_with fail
  refine (wnumK_is g (acc ++ [k.s]) k.c _ H1.out c0 (by have := HK.out.c1; omega) (by simp; omega)).mono ?_
  rintro r w2 ⟨⟨y, rfl⟩, hw2, hb2, hk2⟩
  have H2 := Lib.hid hw2
  have Q2 := Lib.hid (hk2 _ _ _ (by decide) NE.out Q1.out)
  have B2 := Lib.hid (B1.out.trans hb2)
  have K2 := Lib.hid (K1.out.trans hk2)
  have a2 := Q2.out.cell (kc0 k)
  have h4 := Zh4.out
  have h1 := Zh1.out
  clear hw2 hb2 hk2 b1
  have N2 := Lib.hid (Q2.out.knm HK.out.ml)
  go_wp2_with (refine wpList_load_nm rfl _ rfl w.heap.size 2 k.m rfl N2.out HK.out.ml ?_)
  refine (wnameK_is g (acc ++ [k.s] ++ M.var k.c) k.m _ H2.out HK.out.ml HK.out.mb (by have := VC.out; simp; omega)).mono ?_
  rintro r w3 ⟨⟨y, rfl⟩, hw3, hb3, hk3⟩
  have H3 := Lib.hid hw3
  have Q3 := Lib.hid (hk3 _ _ _ (by decide) NE.out Q2.out)
  have B3 := Lib.hid (B2.out.trans hb3)
  have K3 := Lib.hid (K2.out.trans hk3)
  have d3 := Q3.out.cell (kc10 HK.out.ml)
  clear hw3 hb3 hk3 a2
  go_wp2_with fail
  refine (wbyteK_is g _ k.r _ H3.out HK.out.r0 HK.out.r1 (by have := VC.out; have := TL.out; simp; omega)).mono ?_
  rintro r w4 ⟨⟨y, rfl⟩, hw4, hb4, hk4⟩
  have H4 := Lib.hid hw4
  have Q4 := Lib.hid (hk4 _ _ _ (by decide) NE.out Q3.out)
  have B4 := Lib.hid (B3.out.trans hb4)
  have K4 := Lib.hid (K3.out.trans hk4)
  have a4 := Q4.out.cell (kc0 k)
  have d4 := Q4.out.cell (kc11 HK.out.ml)
  clear hw4 hb4 hk4 d3
  go_wp2_with fail
  go_end0
  exact ⟨⟨_, rfl⟩, by rw [kenc2 h4 h1]; simpa only [List.append_assoc] using H4.out, B4.out, K4.out⟩
set_option maxRecDepth 100000 in
theorem kwrite1 (g : Nat) (acc : List Int) (k : Ky) (w : World) (h : WrAt w g acc) (hk : k.Ok) (hn : acc.length + 40 ≤ 30000) (h1 : k.s = 1) :
    Calls Tryz.prog 122 #[.pointer (some ⟨g, 0, none⟩), .agg k.cells.toArray] w (WroteK w g (acc ++ kenc k)) := by
  have Q0 := Lib.hid (blk_alloc w 48 k.cells)
  have B0 := Lib.hid (new_below w (.cells k.cells.toArray 48))
  have HL := Lib.hid h.lt
  have HW := Lib.hid (h.below B0.out)
  have HK := Lib.hid hk
  have NE := Lib.hid (show w.heap.size ≠ g from fun e => Nat.lt_irrefl _ (e ▸ h.lt))
  have VC := Lib.hid (M.var_ten k.c hk.c0 (by have := hk.c1; omega))
  have VQ := Lib.hid (M.var_ten k.q hk.q0 (by have := hk.q1; omega))
  have TL := Lib.hid (show (M.text k.m).length ≤ 8 from hk.ml ▸ M.text_len k.m)
  have c0 := hk.c0
  have q0 := hk.q0
  have a0 := Q0.out.cell (kc0 k)
  have x16 := wrap16 hk
  have x32 := wrap32 hk
  have Zh1 := Lib.hid h1
  clear h1
  clear h hk
  go_enter Tryz.func122, Tryz.ntmps122
  go_wp2_with fail
  refine (wbyteK_is g acc k.s _ HW.out HK.out.s0 HK.out.s1 (by omega)).mono ?_
  rintro r w1 ⟨⟨y, rfl⟩, hw1, hb1, hk1⟩
  have H1 := Lib.hid hw1
  have Q1 := Lib.hid (hk1 _ _ _ (by decide) NE.out Q0.out)
  have B1 := Lib.hid (below_step B0.out hb1 (Nat.le_of_lt HL.out))
  have K1 := Lib.hid ((KeepT.of_below B0.out).trans hk1)
  have b1 := Q1.out.cell (kc1 k)
  clear hw1 hb1 hk1 a0
  go_wp2_with fail
  refine (wnumK_is g (acc ++ [k.s]) k.c _ H1.out c0 (by have := HK.out.c1; omega) (by simp; omega)).mono ?_
  rintro r w2 ⟨⟨y, rfl⟩, hw2, hb2, hk2⟩
  have H2 := Lib.hid hw2
  have Q2 := Lib.hid (hk2 _ _ _ (by decide) NE.out Q1.out)
  have B2 := Lib.hid (B1.out.trans hb2)
  have K2 := Lib.hid (K1.out.trans hk2)
  have a2 := Q2.out.cell (kc0 k)
  have h1 := Zh1.out
  clear hw2 hb2 hk2 b1
  have N2 := Lib.hid (Q2.out.knm HK.out.ml)
  go_wp2_with (refine wpList_load_nm rfl _ rfl w.heap.size 2 k.m rfl N2.out HK.out.ml ?_)
  refine (wnameK_is g (acc ++ [k.s] ++ M.var k.c) k.m _ H2.out HK.out.ml HK.out.mb (by have := VC.out; simp; omega)).mono ?_
  rintro r w3 ⟨⟨y, rfl⟩, hw3, hb3, hk3⟩
  have H3 := Lib.hid hw3
  have Q3 := Lib.hid (hk3 _ _ _ (by decide) NE.out Q2.out)
  have B3 := Lib.hid (B2.out.trans hb3)
  have K3 := Lib.hid (K2.out.trans hk3)
  have d3 := Q3.out.cell (kc10 HK.out.ml)
  clear hw3 hb3 hk3 a2
  go_wp2_with fail
  refine (wbyteK_is g _ k.r _ H3.out HK.out.r0 HK.out.r1 (by have := VC.out; have := TL.out; simp; omega)).mono ?_
  rintro r w4 ⟨⟨y, rfl⟩, hw4, hb4, hk4⟩
  have H4 := Lib.hid hw4
  have Q4 := Lib.hid (hk4 _ _ _ (by decide) NE.out Q3.out)
  have B4 := Lib.hid (B3.out.trans hb4)
  have K4 := Lib.hid (K3.out.trans hk4)
  have a4 := Q4.out.cell (kc0 k)
  have d4 := Q4.out.cell (kc11 HK.out.ml)
  clear hw4 hb4 hk4 d3
  go_wp2_with fail
  refine (wnumK_is g _ k.q _ H4.out q0 (by have := HK.out.q1; omega) (by have := VC.out; have := TL.out; simp; omega)).mono ?_
  rintro r w5 ⟨⟨y, rfl⟩, hw5, hb5, hk5⟩
  have H5 := Lib.hid hw5
  have B5 := Lib.hid (B4.out.trans hb5)
  have K5 := Lib.hid (K4.out.trans hk5)
  clear hw5 hb5 hk5
  go_wp2_with fail
  go_end0
  exact ⟨⟨_, rfl⟩, by rw [kenc1 h1]; simpa only [List.append_assoc] using H5.out, B5.out, K5.out⟩
theorem kwrite_is (g : Nat) (acc : List Int) (k : Ky) (w : World) (h : WrAt w g acc) (hk : k.Ok) (hn : acc.length + 40 ≤ 30000) :
    Calls Tryz.prog 122 #[.pointer (some ⟨g, 0, none⟩), .agg k.cells.toArray] w (WroteK w g (acc ++ kenc k)) := by
  by_cases h4 : k.s = 4
  · exact kwrite4 g acc k w h hk hn h4
  · by_cases h1 : k.s = 1
    · exact kwrite1 g acc k w h hk hn h1
    · exact kwrite2 g acc k w h hk hn h4 h1
end Go.Proofs.YtnpbmihbmilkbaaGreat
