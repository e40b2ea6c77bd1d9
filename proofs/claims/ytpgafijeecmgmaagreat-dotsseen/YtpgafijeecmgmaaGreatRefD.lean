/- The contracts of the reference's Has, put and Same. Written by wip/tools/refd_r13.py. The contract of the reference's settle. The contracts of the reference's Same, Words, Add, Right, Join, Count and Less. Written by wip/tools/reft_r13.py. -/
import Derived.Test.YtpgafijeecmgmaaGreatUses
namespace Go.Proofs.YtpgafijeecmgmaaGreat
open Go.RowKit

/-- The call answers a set. -/
def GivesP (w : World) (p : List Int × List Int) (e : Ending) (w' : World) : Prop :=
  ∃ A c, e = .returned (.agg (sc p.1 (.slice A p.2.length c)).toArray) ∧ NumsAt w' (.slice A p.2.length c) p.2 ∧ Below w.heap.size w w'
theorem exec_load_c {o : Oper} {a : Act} {w : World} (x : Operand) (ho : o.op = .load 27 x) (G p : Nat) (A : Option Addr) (n c : Nat) (hx : a.eval x = .pointer (some ⟨G, p, none⟩)) (hc : w.cell? ⟨G, p, none⟩ = some (.slice A n c)) :
    (execOp a.eval o).run Tryz.prog w = .ok (.value (.slice A n c)) w := by
  unfold execOp
  simp only [ho, hx]
  simp [go_sem, hc]
theorem exec_store_c {o : Oper} {a : Act} {w : World} (x y : Operand) (ho : o.op = .store 27 x y) (G p : Nat) (A : Option Addr) (n c : Nat) (u : Value) (hx : a.eval x = .pointer (some ⟨G, p, none⟩)) (hy : a.eval y = .slice A n c) (hc : w.cell? ⟨G, p, none⟩ = some u) (hf : w.frozen? ⟨G, p, none⟩ = false) :
    (execOp a.eval o).run Tryz.prog w = .ok .skip (w.setCell ⟨G, p, none⟩ (.slice A n c)) := by
  unfold execOp
  simp only [ho, hx, hy]
  simp [go_sem, hc, hf]
set_option maxRecDepth 100000 in
set_option maxHeartbeats 2000000 in
theorem rhas_is (f c : List Int) (A : Option Addr) (cp : Nat) (x : Int) (r : Bool) (w : World) (hf : VOk f) (h1 : NumsAt w (.slice A c.length cp) c) (hn1 : c.length ≤ 5000) (hx : 0 ≤ x ∧ x < 18446744073709551616) (hr : Hid (has f c x = r)) :
    Calls Tryz.prog 31 #[.agg (sc f (.slice A c.length cp)).toArray, .int .u64 x] w fun e w' => e = .returned (.bool r) ∧ Below w.heap.size w w' := by
  have HF := Lib.hid hf
  have H1 := Lib.hid h1
  have G1 := Lib.hid (blk_alloc w 33 (sc f (.slice A c.length cp)))
  have B1 := Lib.hid (new_below w (.cells (sc f (.slice A c.length cp)).toArray 33))
  clear hf h1
  obtain ⟨r1, hr1⟩ : ∃ r, may x = r := ⟨_, rfl⟩
  cases r1 with
  | false =>
    have e3 := Lib.hid (show false = r by rw [← hr.out]; unfold has; rw [hr1]; rfl)
    go_enter Tryz.func31, Tryz.ntmps31
    go_wp2_with fail
    refine (may_is x false _ hx (Lib.hid hr1)).mono ?_
    rintro e w2 ⟨rfl, rfl⟩
    go_wp2_with fail
    go_ret
    exact ⟨ret_bool e3.out, B1.out⟩
  | true =>
    have hm := may_iff.1 hr1
    have HX := Lib.hid hx
    have hq : Int.tdiv x 4294967296 = x / 4294967296 := Int.tdiv_eq_ediv_of_nonneg hm.1
    have hmo : Int.tmod x 4294967296 = x % 4294967296 := Int.tmod_eq_emod_of_nonneg hm.1
    obtain ⟨k, hk⟩ : ∃ k : Nat, x / 4294967296 = (k : Int) := ⟨(x / 4294967296).toNat, by omega⟩
    obtain ⟨b, hb⟩ : ∃ b, x % 4294967296 = b := ⟨_, rfl⟩
    have hk16 : k < 16 := by omega
    obtain ⟨y, hy⟩ : ∃ y, f.getD k 0 = y := ⟨_, rfl⟩
    have hyr := HF.out.at k
    rw [hy] at hyr
    have ca := G1.out.cell (sc_floor (.slice A c.length cp) HF.out.len k hk16)
    rw [hy] at ca
    have c16 := G1.out.cell (sc_cloud (.slice A c.length cp) HF.out.len)
    have e1 : IntKind.u64.wrap ((k : Int)) = (k : Int) := by rw [IntKind.wrap_u64]; omega
    have e2 : IntKind.u64.wrap b = b := by rw [IntKind.wrap_u64]; omega
    have e3 : IntKind.u64.wrap y = y := by rw [IntKind.wrap_u64]; omega
    have hu : und f x = decide (b ≤ y) := by unfold und; rw [hb, hk, Int.toNat_natCast, hy]
    rw [hk] at hq
    rw [hb] at hmo
    have hxe := Lib.hid hr1
    clear hm hk hb hy hyr hr1 hx
    by_cases hby : b ≤ y
    · have hby' : decide (b ≤ y) = true := decide_eq_true hby
      have e4 := Lib.hid (show true = r by rw [← hr.out]; exact (hasd_iff.2 ⟨hxe.out, .inl (hu.trans hby')⟩).symm)
      clear hu
      go_enter Tryz.func31, Tryz.ntmps31
      go_wp2_with fail
      refine (may_is x true _ HX.out hxe).mono ?_
      rintro e w2 ⟨rfl, rfl⟩
      go_wp2_with fail
      go_ret
      exact ⟨ret_bool e4.out, B1.out⟩
    · have hby' : decide (b ≤ y) = false := decide_eq_false hby
      have e4 := Lib.hid (show c.contains x = r by rw [← hr.out]; unfold has; rw [hxe.out, hu, hby']; rfl)
      clear hu
      go_enter Tryz.func31, Tryz.ntmps31
      go_wp2_with fail
      refine (may_is x true _ HX.out hxe).mono ?_
      rintro e w2 ⟨rfl, rfl⟩
      go_wp2_with fail
      go_loopw [5] (fun i wr => ∃ j : Nat, j ≤ c.length ∧ i = .int .i64 j ∧ (∀ m, m < j → c.getD m 0 ≠ x) ∧ wr = w.alloc (.cells (sc f (.slice A c.length cp)).toArray 33)) (fun i _ => c.length - (intOf i).toNat)
      case atStart => exact ⟨0, Nat.zero_le _, rfl, fun m hm => absurd hm (by omega), rfl⟩
      case round =>
        obtain ⟨j, hj, rfl, hno, rfl⟩ := hrel
        have NO := Lib.hid hno
        clear hno
        by_cases hlt : j < c.length
        · obtain ⟨G, p, hE, hc, hG⟩ := (H1.out.below B1.out).elem j hlt
          have E := Lib.hid hE
          obtain ⟨z, hz⟩ : ∃ z, c.getD j 0 = z := ⟨_, rfl⟩
          have HZ := Lib.hid hz
          rw [hz] at hc
          clear hE hz
          by_cases he : z = x
          · have he' : (z == x) = true := by simp [he]
            have e5 := Lib.hid (show true = r by rw [← e4.out]; exact (List.contains_iff_mem.2 (by rw [← he, ← HZ.out, getD_at hlt]; exact List.getElem_mem hlt)).symm)
            go_wp2_with (first
              | refine wpList_indexN u24n rfl _ _ rfl _ _ _ G p j _ rfl rfl rfl E.out ?_)
            go_ret
            exact ⟨ret_bool e5.out, B1.out⟩
          · have he' : (z == x) = false := by simp [he]
            go_wp2_with (first
              | refine wpList_indexN u24n rfl _ _ rfl _ _ _ G p j _ rfl rfl rfl E.out ?_)
            go_roundw
            case rel =>
              refine ⟨j + 1, by omega, by go_num, fun m hm => ?_, by first | trivial | rfl⟩
              by_cases hm2 : m = j
              · subst hm2; rw [HZ.out]; exact he
              · exact NO.out m (by omega)
            case measure => simp [intOf]; omega
        · obtain rfl : j = c.length := by omega
          have e5 := Lib.hid (show false = r by
            rw [← e4.out, eq_comm, Bool.eq_false_iff]
            intro h
            obtain ⟨i, hi, e⟩ := List.mem_iff_getElem.1 (List.contains_iff_mem.1 h)
            exact NO.out i hi (by rw [getD_at hi]; exact e))
          go_wp2_with fail
          go_ret
          exact ⟨ret_bool e5.out, B1.out⟩
/-- A number behind a row of one's own, laid: what the two operations do. -/
theorem app_one (w : World) (b : Nat) (A : Option Addr) (n cp : Nat) (o : List Int) (z : Int) (h : OwnN w b (.slice A n cp) o) (hz : 0 ≤ z ∧ z < 18446744073709551616) (hn : o.length ≤ 20000) (hb : b ≤ w.heap.size) :
    ∃ E k c w', (Builtin.append_ #[27, 27] 27 #[.slice A n cp, .slice (some ⟨w.heap.size, 0, none⟩) 1 1]).run Tryz.prog (w.alloc (.cells #[.int .u64 z] 40)) = .ok (.slice E k c) w' ∧ k = (o ++ [z]).length ∧ OwnN w' b (.slice E k c) (o ++ [z]) ∧ Below b (w.alloc (.cells #[.int .u64 z] 40)) w' := by
  have n1 := (own_num1 w z hz w.heap.size (Nat.le_refl _)).at_
  have o1 := h.below (new_below w (.cells #[.int .u64 z] 40))
  obtain ⟨v', w3, he, h1, h2, h3, h4⟩ := run_app_nums (w.alloc (.cells #[.int .u64 z] 40)) u24n 27 b _ _ o [z] o1 n1 (by simp; omega) (Nat.le_trans hb (by simp))
  obtain ⟨E, c, e⟩ := h1.shape
  subst e
  exact ⟨E, _, c, w3, he, rfl, h1, h3⟩
theorem psts_nx (d : Int) {c : List Int} {j : Nat} (h : j < c.length) : psts d (c.take (j + 1)) = pstep d (psts d (c.take j)) (c.getD j 0) := by
  rw [take_nx h, psts_snoc]
set_option maxRecDepth 100000 in
set_option maxHeartbeats 4000000 in
theorem rput_is (f c : List Int) (A : Option Addr) (cp : Nat) (x : Int) (w : World) (hf : VOk f) (h1 : NumsAt w (.slice A c.length cp) c) (hn1 : c.length ≤ 5000) (hx : 0 ≤ x ∧ x < 18446744073709551616) (l : List Int) (hl : Hid (putd f c x = l)) :
    Calls Tryz.prog 17 #[.agg (sc f (.slice A c.length cp)).toArray, .int .u64 x] w (GivesP w (f, l)) := by
  have HF := Lib.hid hf
  have H1 := Lib.hid h1
  have HX := Lib.hid hx
  clear hf h1 hx
  obtain ⟨r1, hr1⟩ : ∃ r, may x = r := ⟨_, rfl⟩
  obtain ⟨r2, hr2⟩ : ∃ r, has f c x = r := ⟨_, rfl⟩
  go_enter Tryz.func17, Tryz.ntmps17
  go_wp2_with (first
    | (refine wpList_box_cs rfl _ rfl (sc f (.slice A c.length cp)) rfl ?_; intro g0 w1 eg0 G1 b1)
    | (refine wpList_alloc_s t26 rfl rfl ?_; intro gr w2 egr R2 b2))
  have G2 := Lib.hid (G1.out.below b2.out)
  have B2 := Lib.hid (b1.out.trans (b2.out.mono b1.out.size))
  have hgr := Lib.hid (show w.heap.size ≤ gr by have := egr.out; have := b1.out.size; omega)
  have hg0gr := Lib.hid (show g0 < gr by have := egr.out; have := G1.out.lt; omega)
  have hg0w := Lib.hid (show w.heap.size ≤ g0 by have := eg0.out; omega)
  clear G1 b1 b2 egr eg0
  refine (may_is x r1 w2 HX.out (Lib.hid hr1)).mono ?_
  rintro e w3 ⟨rfl, rfl⟩
  cases r1 with
  | false =>
    obtain rfl : c = l := by rw [← hl.out]; unfold putd; rw [hr1]; rfl
    go_wp2_with (first
      | go_skip
      | refine wpList_load_s t26 rfl _ rfl g0 f _ rfl G2.out HF.out.len ?_
      | (refine wpList_store_s t26 rfl _ _ rfl gr vz f _ A c.length cp rfl rfl R2.out vz_len HF.out.len ?_; intro w5 R5 o5))
    refine bodyPost_ret (results_s t26 rfl _ _ gr f _ rfl R5.out HF.out.len) rfl ?_
    have x5 := B2.out.trans (o5.out.below hgr.out B2.out.size)
    exact ⟨A, cp, rfl, H1.out.below x5, x5⟩
  | true =>
    go_wp2_with (first
      | go_skip
      | (refine wanted_on rfl ?_; refine wpList_load_s t26 rfl _ rfl g0 f _ rfl G2.out HF.out.len ?_))
    refine (rhas_is f c A cp x r2 w2 HF.out (H1.out.below B2.out) hn1 HX.out (Lib.hid hr2)).mono ?_
    rintro e w3 ⟨rfl, b3⟩
    have B3 := Lib.hid (step_ B2.out b3)
    have G3 := Lib.hid (G2.out.below b3)
    have R3 := Lib.hid (R2.out.below b3)
    clear b3 G2 R2 B2
    cases r2 with
    | true =>
      obtain rfl : c = l := by rw [← hl.out]; unfold putd; rw [hr1, hr2]; rfl
      go_wp2_with (first
        | refine wpList_load_s t26 rfl _ rfl g0 f _ rfl G3.out HF.out.len ?_
        | (refine wpList_store_s t26 rfl _ _ rfl gr vz f _ A c.length cp rfl rfl R3.out vz_len HF.out.len ?_; intro w5 R5 o5))
      refine bodyPost_ret (results_s t26 rfl _ _ gr f _ rfl R5.out HF.out.len) rfl ?_
      have x5 := B3.out.trans (o5.out.below hgr.out B3.out.size)
      exact ⟨A, cp, rfl, H1.out.below x5, x5⟩
    | false =>
      have hl2 := Lib.hid (show insd x c = l by rw [← hl.out]; unfold putd; rw [hr1, hr2]; rfl)
      clear hl
      go_wp2_with (first
        | refine wpList_load_v t23 rfl _ rfl g0 0 f rfl (range_floor G3.out.range) HF.out.len ?_
        | (refine wpList_build rfl 33 _ rfl [(0, .agg (vc f).toArray)] rfl _ (built_s26o f HF.out.len) ?_)
        | (refine wpList_alloc_s t26 rfl rfl ?_; intro go w4 ego S4 b4)
        | (refine wpList_store_s t26 rfl _ _ rfl go vz f (.slice none 0 0) none 0 0 rfl rfl S4.out vz_len HF.out.len ?_; intro w5 S5 o5))
      have lR := R3.out.lt
      have hgo := Lib.hid (show w.heap.size ≤ go by have := ego.out; have := B3.out.size; omega)
      have hg0 := Lib.hid (show g0 < go by have := ego.out; have := G3.out.lt; omega)
      have hgrgo := Lib.hid (show gr < go by have := ego.out; omega)
      have B5 := Lib.hid ((step_ B3.out b4.out).trans (o5.out.below hgo.out (step_ B3.out b4.out).size))
      have G5 := Lib.hid ((G3.out.below b4.out).only o5.out (by have := hg0.out; omega))
      have R5 := Lib.hid ((R3.out.below b4.out).only o5.out (by have := hgrgo.out; omega))
      have hgo5 := Lib.hid (show go < w5.heap.size from S5.out.lt)
      clear S4 b4 o5 ego B3 G3 R3 lR
      go_loopw [6, 7] (fun dn i wr => ∃ (j : Nat) (A' : Option Addr) (c' : Nat), j ≤ c.length ∧ i = .int .i64 j ∧ dn = .bool (psts x (c.take j)).1 ∧ Blk wr go 33 (sc f (.slice A' (psts x (c.take j)).2.length c')) ∧ OwnN wr w5.heap.size (.slice A' (psts x (c.take j)).2.length c') (psts x (c.take j)).2 ∧ Blk wr g0 33 (sc f (.slice A c.length cp)) ∧ Blk wr gr 33 (sc vz (.slice none 0 0)) ∧ Below w.heap.size w wr ∧ w5.heap.size ≤ wr.heap.size) (fun _ i _ => c.length - (intOf i).toNat)
      case atStart => exact ⟨0, none, 0, Nat.zero_le _, rfl, rfl, S5.out, ownN_nil _ _, G5.out, R5.out, B5.out, Nat.le_refl _⟩
      case round =>
        clear S5 G5 R5 B5
        obtain ⟨j, A', c', hj, rfl, rfl, hs, ho, hg, hrr, hb, hsz⟩ := hrel
        obtain ⟨s, hs0⟩ : ∃ s, psts x (c.take j) = s := ⟨_, rfl⟩
        rw [hs0] at hs ho ⊢
        have HS := Lib.hid hs0
        have S0 := Lib.hid hs
        have O0 := Lib.hid ho
        have G0 := Lib.hid hg
        have R0 := Lib.hid hrr
        have BB := Lib.hid hb
        have hsl : s.2.length ≤ 5002 := by
          have := (psts_len x _ (c.take j) rfl).1
          rw [hs0, List.length_take] at this; omega
        clear hs ho hg hrr hb hs0
        have c16 := G0.out.cell (sc_cloud (.slice A c.length cp) HF.out.len)
        by_cases hlt : j < c.length
        · obtain ⟨G, p, hE, hc, hGw0⟩ := (H1.out.below BB.out).elem j hlt
          have hGw : G < w.heap.size := by
            obtain ⟨G', p', hE', _, hG'⟩ := H1.out.elem j hlt
            obtain ⟨o1, h1, _⟩ := hE.ad
            obtain ⟨o2, h2, _⟩ := hE'.ad
            rw [h1] at h2
            simp only [Option.some.injEq, Addr.mk.injEq] at h2
            omega
          have E := Lib.hid hE
          obtain ⟨z, hz⟩ : ∃ z, c.getD j 0 = z := ⟨_, rfl⟩
          have HZ := Lib.hid hz
          have HZR := Lib.hid (hz ▸ H1.out.nums.at_ j)
          rw [hz] at hc
          have BG := Lib.hid (show G < go from Nat.lt_of_lt_of_le hGw hgo.out)
          have CZ := Lib.hid hc
          have PN := Lib.hid (show psts x (c.take (j + 1)) = pstep x s z by rw [psts_nx x hlt, HS.out, HZ.out])
          clear hE hz hGw hGw0
          obtain ⟨b, o⟩ := s
          have hol : o.length ≤ 5002 := hsl
          obtain ⟨rz, hrz⟩ : ∃ r, decide (x < z) = r := ⟨_, rfl⟩
          cases b with
          | true =>
            have PE := Lib.hid (show psts x (c.take (j + 1)) = (true, o ++ [z]) by rw [PN.out]; rfl)
            go_wp2_with fail
            obtain ⟨E1, n1, e1, w3', he, hn3, ho3, hb3⟩ := app_one wr.drew w5.heap.size A' o.length c' (o) z O0.out.drew HZR.out (by first | omega | (rw [List.length_append, List.length_singleton]; omega)) hsz
            have HE := Lib.hid he
            have HN3 := Lib.hid hn3
            have O3 := Lib.hid ho3
            have S0' := Lib.hid (show Below go wr wr.drew from below_drew (Below.refl _ _))
            have SA := Lib.hid (show Below go wr (wr.drew.alloc (.cells #[.int .u64 z] 40)) from S0'.out.trans ((new_below wr.drew (.cells #[.int .u64 z] 40)).mono (Nat.le_of_lt S0.out.lt)))
            have SB := Lib.hid (show Below go wr w3' from SA.out.trans (hb3.mono (Nat.le_of_lt hgo5.out)))
            have k0 := Lib.hid (show wr.drew.cell? ⟨go, 16, none⟩ = some (.slice A' o.length c') from (S0.out.drew).cell (sc_cloud _ HF.out.len))
            have k1 := Lib.hid (show (wr.drew.alloc (.cells #[.int .u64 z] 40)).cell? ⟨go, 16, none⟩ = some (.slice A' o.length c') from ((S0.out.drew).alloc _).cell (sc_cloud _ HF.out.len))
            have S3 := Lib.hid (show Blk w3' go 33 (sc f (.slice A' o.length c')) from ((S0.out.drew).alloc (.cells #[.int .u64 z] 40)).upto hb3 hgo5.out)
            have k3 := Lib.hid (S3.out.cell (sc_cloud _ HF.out.len))
            have f3 := Lib.hid (S3.out.frozen 16)
            have O4 := Lib.hid (Only.set go 16 w3' (.slice E1 n1 e1))
            have SC := Lib.hid (show Below go wr (w3'.setCell ⟨go, 16, none⟩ (.slice E1 n1 e1)) from SB.out.trans (O4.out.below (Nat.le_refl _) (Nat.le_of_lt S3.out.lt)))
            clear he ho3 hb3 hn3 c16
            refine wp_region_noPanic ?_
            refine wp_region_held_drew (S := fun W => Below go wr W) (by kernel_rfl) S0'.out (fun _ => ?_)
            refine wpAnyH_take (i := 0) (oi := { dst := some 44, op := Go.Op.fieldAddr 33 (Go.Operand.tmp 5) 1, type := 0, pos := _, after := #[], guard := none }) (v := ?_) rfl (by kernel_rfl) (by kernel_rfl) (by kernel_rfl) (fun _ _ _ h => h) (Or.inl ⟨by rfl, ?_⟩) S0'.out ?_
            rotate_left
            · intro W hW; (go_simp; try with_reducible rfl)
            try simp only [Act.put, List.setIfInBounds_toArray, List.set_cons_zero, List.set_cons_succ]
            refine wpAnyH_take (i := 2) (oi := { dst := some 46, op := Go.Op.fieldAddr 33 (Go.Operand.tmp 2) 1, type := 0, pos := _, after := #[], guard := none }) (v := ?_) rfl (by kernel_rfl) (by kernel_rfl) (by kernel_rfl) (fun _ _ _ h => h) (Or.inl ⟨by rfl, ?_⟩) S0'.out ?_
            rotate_left
            · intro W hW; (go_simp; try with_reducible rfl)
            try simp only [Act.put, List.setIfInBounds_toArray, List.set_cons_zero, List.set_cons_succ]
            refine wpAnyH_take (i := 3) (oi := { dst := some 47, op := Go.Op.load 27 (Go.Operand.tmp 46), type := 27, pos := _, after := #[{ on := 2, ground := Go.Ground.data }], guard := none }) (v := ?_) rfl (by kernel_rfl) (by kernel_rfl) (by kernel_rfl) (fun _ _ _ h => h) (Or.inl ⟨by rfl, ?_⟩) S0'.out ?_
            rotate_left
            · intro W hW; have q16 := (G0.out.upto hW hg0.out).cell (sc_cloud (.slice A c.length cp) HF.out.len); (go_simp; try with_reducible rfl)
            try simp only [Act.put, List.setIfInBounds_toArray, List.set_cons_zero, List.set_cons_succ]
            refine wpAnyH_take (i := 4) (oi := { dst := some 48, op := Go.Op.move (Go.Operand.tmp 7), type := 3, pos := _, after := #[], guard := none }) (v := ?_) rfl (by kernel_rfl) (by kernel_rfl) (by kernel_rfl) (fun _ _ _ h => h) (Or.inl ⟨by rfl, ?_⟩) S0'.out ?_
            rotate_left
            · intro W hW; (go_simp; try with_reducible rfl)
            try simp only [Act.put, List.setIfInBounds_toArray, List.set_cons_zero, List.set_cons_succ]
            refine wpAnyH_take (i := 5) (oi := { dst := some 49, op := Go.Op.indexAddr 27 (Go.Operand.tmp 47) (Go.Operand.tmp 48), type := 0, pos := _, after := #[{ on := 3, ground := Go.Ground.data }, { on := 4, ground := Go.Ground.data }], guard := none }) (v := .pointer (some ⟨G, p, none⟩)) rfl (by kernel_rfl) (by kernel_rfl) (by kernel_rfl) (fun _ _ _ h => h) (Or.inl ⟨by rfl, fun W hW => exec_indexN u24n (.tmp 47) (.tmp 48) rfl A _ _ G p j _ rfl rfl rfl E.out⟩) S0'.out ?_
            try simp only [Act.put, List.setIfInBounds_toArray, List.set_cons_zero, List.set_cons_succ]
            refine wpAnyH_take (i := 6) (oi := { dst := some 50, op := Go.Op.load 40 (Go.Operand.tmp 49), type := 40, pos := _, after := #[{ on := 5, ground := Go.Ground.data }], guard := none }) (v := .int .u64 z) rfl (by kernel_rfl) (by kernel_rfl) (by kernel_rfl) (fun _ _ _ h => h) (Or.inl ⟨by rfl, fun W hW => exec_load_num (.tmp 49) rfl G p z rfl ((hW.cell (p := ⟨G, p, none⟩) BG.out).trans CZ.out)⟩) S0'.out ?_
            try simp only [Act.put, List.setIfInBounds_toArray, List.set_cons_zero, List.set_cons_succ]
            refine wpAnyH_ready (rs := [1, 7]) (by kernel_rfl) (by simp) ?_
            refine ready_val (o := { dst := some 45, op := Go.Op.load 27 (Go.Operand.tmp 44), type := 27, pos := _, after := #[{ on := 0, ground := Go.Ground.data }], guard := none }) rfl rfl _ _ (exec_load_c (.tmp 44) rfl go 16 _ _ _ rfl k0.out) ⟨S0'.out, ?_⟩ ?_
            · try simp only [Act.put, List.setIfInBounds_toArray, List.set_cons_zero, List.set_cons_succ]
              refine wpAnyH_ready (rs := [7]) (by kernel_rfl) (by simp) ?_
              refine ready_val (o := { dst := some 51, op := Go.Op.buildSlice 27 1 #[(0, Go.Operand.tmp 50)], type := 27, pos := _, after := #[{ on := 6, ground := Go.Ground.data }], guard := none }) rfl rfl _ _ (exec_num1 u24n (.tmp 50) rfl z rfl) ⟨SA.out, ?_⟩ AllReadyH.nil
              try simp only [Act.put, List.setIfInBounds_toArray, List.set_cons_zero, List.set_cons_succ]
              refine wpAnyH_ready (rs := [8]) (by kernel_rfl) (by simp) ?_
              refine ready_val (o := { dst := some 52, op := Go.Op.call { callee := Go.Callee.builtin Go.Builtin.append, args := #[Go.Operand.tmp 45, Go.Operand.tmp 51], argTypes := #[27, 27] }, type := 27, pos := _, after := #[{ on := 1, ground := Go.Ground.data }, { on := 7, ground := Go.Ground.data }], guard := none }) rfl rfl _ _ (exec_app (.tmp 45) (.tmp 51) rfl _ _ _ rfl rfl HE.out) ⟨SB.out, ?_⟩ AllReadyH.nil
              try simp only [Act.put, List.setIfInBounds_toArray, List.set_cons_zero, List.set_cons_succ]
              refine wpAnyH_take (i := 9) (oi := { dst := some 53, op := Go.Op.fieldAddr 33 (Go.Operand.tmp 5) 1, type := 0, pos := _, after := #[{ on := 0, ground := Go.Ground.phase }, { on := 1, ground := Go.Ground.phase }, { on := 2, ground := Go.Ground.phase }, { on := 3, ground := Go.Ground.phase }, { on := 4, ground := Go.Ground.phase }, { on := 5, ground := Go.Ground.phase }, { on := 6, ground := Go.Ground.phase }, { on := 7, ground := Go.Ground.phase }, { on := 8, ground := Go.Ground.phase }], guard := none }) (v := ?_) rfl (by kernel_rfl) (by kernel_rfl) (by kernel_rfl) (fun _ _ _ h => h) (Or.inl ⟨by rfl, ?_⟩) SB.out ?_
              rotate_left
              · intro W hW; (go_simp; try with_reducible rfl)
              try simp only [Act.put, List.setIfInBounds_toArray, List.set_cons_zero, List.set_cons_succ]
              refine wpAnyH_ready (rs := [10]) (by kernel_rfl) (by simp) ?_
              refine ready_skip (o := { dst := none, op := Go.Op.store 27 (Go.Operand.tmp 53) (Go.Operand.tmp 52), type := 0, pos := _, after := #[{ on := 9, ground := Go.Ground.data }, { on := 8, ground := Go.Ground.data }, { on := 8, ground := Go.Ground.chain }, { on := 0, ground := Go.Ground.phase }, { on := 1, ground := Go.Ground.phase }, { on := 2, ground := Go.Ground.phase }, { on := 3, ground := Go.Ground.phase }, { on := 4, ground := Go.Ground.phase }, { on := 5, ground := Go.Ground.phase }, { on := 6, ground := Go.Ground.phase }, { on := 7, ground := Go.Ground.phase }, { on := 8, ground := Go.Ground.phase }], guard := none }) rfl rfl _ (exec_store_c (.tmp 53) (.tmp 52) rfl go 16 _ _ _ _ rfl rfl k3.out f3.out) ⟨SC.out, ?_⟩ AllReadyH.nil
              simp only [Act.put]
              refine wpAnyH_done (by kernel_rfl) ?_ _
              refine NoPanic.normal ?_
              go_wp2_with fail
              have S4 := Lib.hid (show Blk (w3'.setCell ⟨go, 16, none⟩ (.slice E1 n1 e1)) go 33 (sc f (.slice E1 n1 e1)) by rw [← sc_put (.slice A' o.length c') _ HF.out.len]; exact S3.out.set 16 _)
              have C4 := Lib.hid (O3.out.only O4.out (fun k hk e => O3.out.neT S3.out (by decide) (by rw [hk, e])))
              go_roundw
              case rel =>
                have en3 := HN3.out
                subst en3
                refine ⟨j + 1, E1, e1, by omega, by go_num, by rw [PE.out], ?_, ?_, G0.out.upto SC.out hg0.out, R0.out.upto SC.out hgrgo.out, BB.out.trans (SC.out.mono hgo.out), Nat.le_trans hsz SC.out.size⟩
                · rw [PE.out]; exact S4.out
                · rw [PE.out]; exact C4.out
              case measure => simp [intOf]; omega
            refine ready_val (o := { dst := some 51, op := Go.Op.buildSlice 27 1 #[(0, Go.Operand.tmp 50)], type := 27, pos := _, after := #[{ on := 6, ground := Go.Ground.data }], guard := none }) rfl rfl _ _ (exec_num1 u24n (.tmp 50) rfl z rfl) ⟨SA.out, ?_⟩ AllReadyH.nil
            try simp only [Act.put, List.setIfInBounds_toArray, List.set_cons_zero, List.set_cons_succ]
            refine wpAnyH_ready (rs := [1]) (by kernel_rfl) (by simp) ?_
            refine ready_val (o := { dst := some 45, op := Go.Op.load 27 (Go.Operand.tmp 44), type := 27, pos := _, after := #[{ on := 0, ground := Go.Ground.data }], guard := none }) rfl rfl _ _ (exec_load_c (.tmp 44) rfl go 16 _ _ _ rfl k1.out) ⟨SA.out, ?_⟩ AllReadyH.nil
            try simp only [Act.put, List.setIfInBounds_toArray, List.set_cons_zero, List.set_cons_succ]
            refine wpAnyH_ready (rs := [8]) (by kernel_rfl) (by simp) ?_
            refine ready_val (o := { dst := some 52, op := Go.Op.call { callee := Go.Callee.builtin Go.Builtin.append, args := #[Go.Operand.tmp 45, Go.Operand.tmp 51], argTypes := #[27, 27] }, type := 27, pos := _, after := #[{ on := 1, ground := Go.Ground.data }, { on := 7, ground := Go.Ground.data }], guard := none }) rfl rfl _ _ (exec_app (.tmp 45) (.tmp 51) rfl _ _ _ rfl rfl HE.out) ⟨SB.out, ?_⟩ AllReadyH.nil
            try simp only [Act.put, List.setIfInBounds_toArray, List.set_cons_zero, List.set_cons_succ]
            refine wpAnyH_take (i := 9) (oi := { dst := some 53, op := Go.Op.fieldAddr 33 (Go.Operand.tmp 5) 1, type := 0, pos := _, after := #[{ on := 0, ground := Go.Ground.phase }, { on := 1, ground := Go.Ground.phase }, { on := 2, ground := Go.Ground.phase }, { on := 3, ground := Go.Ground.phase }, { on := 4, ground := Go.Ground.phase }, { on := 5, ground := Go.Ground.phase }, { on := 6, ground := Go.Ground.phase }, { on := 7, ground := Go.Ground.phase }, { on := 8, ground := Go.Ground.phase }], guard := none }) (v := ?_) rfl (by kernel_rfl) (by kernel_rfl) (by kernel_rfl) (fun _ _ _ h => h) (Or.inl ⟨by rfl, ?_⟩) SB.out ?_
            rotate_left
            · intro W hW; (go_simp; try with_reducible rfl)
            try simp only [Act.put, List.setIfInBounds_toArray, List.set_cons_zero, List.set_cons_succ]
            refine wpAnyH_ready (rs := [10]) (by kernel_rfl) (by simp) ?_
            refine ready_skip (o := { dst := none, op := Go.Op.store 27 (Go.Operand.tmp 53) (Go.Operand.tmp 52), type := 0, pos := _, after := #[{ on := 9, ground := Go.Ground.data }, { on := 8, ground := Go.Ground.data }, { on := 8, ground := Go.Ground.chain }, { on := 0, ground := Go.Ground.phase }, { on := 1, ground := Go.Ground.phase }, { on := 2, ground := Go.Ground.phase }, { on := 3, ground := Go.Ground.phase }, { on := 4, ground := Go.Ground.phase }, { on := 5, ground := Go.Ground.phase }, { on := 6, ground := Go.Ground.phase }, { on := 7, ground := Go.Ground.phase }, { on := 8, ground := Go.Ground.phase }], guard := none }) rfl rfl _ (exec_store_c (.tmp 53) (.tmp 52) rfl go 16 _ _ _ _ rfl rfl k3.out f3.out) ⟨SC.out, ?_⟩ AllReadyH.nil
            simp only [Act.put]
            refine wpAnyH_done (by kernel_rfl) ?_ _
            refine NoPanic.normal ?_
            go_wp2_with fail
            have S4 := Lib.hid (show Blk (w3'.setCell ⟨go, 16, none⟩ (.slice E1 n1 e1)) go 33 (sc f (.slice E1 n1 e1)) by rw [← sc_put (.slice A' o.length c') _ HF.out.len]; exact S3.out.set 16 _)
            have C4 := Lib.hid (O3.out.only O4.out (fun k hk e => O3.out.neT S3.out (by decide) (by rw [hk, e])))
            go_roundw
            case rel =>
              have en3 := HN3.out
              subst en3
              refine ⟨j + 1, E1, e1, by omega, by go_num, by rw [PE.out], ?_, ?_, G0.out.upto SC.out hg0.out, R0.out.upto SC.out hgrgo.out, BB.out.trans (SC.out.mono hgo.out), Nat.le_trans hsz SC.out.size⟩
              · rw [PE.out]; exact S4.out
              · rw [PE.out]; exact C4.out
            case measure => simp [intOf]; omega
          | false =>
            cases rz with
            | false =>
              have PE := Lib.hid (show psts x (c.take (j + 1)) = (false, o ++ [z]) by rw [PN.out]; simp only [pstep, hrz]; rfl)
              go_wp2_with (first
                | go_skip
                | (refine wanted_on rfl ?_; refine wpList_indexN u24n rfl _ _ rfl _ _ _ G p j _ rfl rfl rfl E.out ?_))
              obtain ⟨E1, n1, e1, w3', he, hn3, ho3, hb3⟩ := app_one wr.drew w5.heap.size A' o.length c' (o) z O0.out.drew HZR.out (by first | omega | (rw [List.length_append, List.length_singleton]; omega)) hsz
              have HE := Lib.hid he
              have HN3 := Lib.hid hn3
              have O3 := Lib.hid ho3
              have S0' := Lib.hid (show Below go wr wr.drew from below_drew (Below.refl _ _))
              have SA := Lib.hid (show Below go wr (wr.drew.alloc (.cells #[.int .u64 z] 40)) from S0'.out.trans ((new_below wr.drew (.cells #[.int .u64 z] 40)).mono (Nat.le_of_lt S0.out.lt)))
              have SB := Lib.hid (show Below go wr w3' from SA.out.trans (hb3.mono (Nat.le_of_lt hgo5.out)))
              have k0 := Lib.hid (show wr.drew.cell? ⟨go, 16, none⟩ = some (.slice A' o.length c') from (S0.out.drew).cell (sc_cloud _ HF.out.len))
              have k1 := Lib.hid (show (wr.drew.alloc (.cells #[.int .u64 z] 40)).cell? ⟨go, 16, none⟩ = some (.slice A' o.length c') from ((S0.out.drew).alloc _).cell (sc_cloud _ HF.out.len))
              have S3 := Lib.hid (show Blk w3' go 33 (sc f (.slice A' o.length c')) from ((S0.out.drew).alloc (.cells #[.int .u64 z] 40)).upto hb3 hgo5.out)
              have k3 := Lib.hid (S3.out.cell (sc_cloud _ HF.out.len))
              have f3 := Lib.hid (S3.out.frozen 16)
              have O4 := Lib.hid (Only.set go 16 w3' (.slice E1 n1 e1))
              have SC := Lib.hid (show Below go wr (w3'.setCell ⟨go, 16, none⟩ (.slice E1 n1 e1)) from SB.out.trans (O4.out.below (Nat.le_refl _) (Nat.le_of_lt S3.out.lt)))
              clear he ho3 hb3 hn3 c16
              refine wp_region_noPanic ?_
              refine wp_region_held_drew (S := fun W => Below go wr W) (by kernel_rfl) S0'.out (fun _ => ?_)
              refine wpAnyH_take (i := 0) (oi := { dst := some 44, op := Go.Op.fieldAddr 33 (Go.Operand.tmp 5) 1, type := 0, pos := _, after := #[], guard := none }) (v := ?_) rfl (by kernel_rfl) (by kernel_rfl) (by kernel_rfl) (fun _ _ _ h => h) (Or.inl ⟨by rfl, ?_⟩) S0'.out ?_
              rotate_left
              · intro W hW; (go_simp; try with_reducible rfl)
              try simp only [Act.put, List.setIfInBounds_toArray, List.set_cons_zero, List.set_cons_succ]
              refine wpAnyH_take (i := 2) (oi := { dst := some 46, op := Go.Op.fieldAddr 33 (Go.Operand.tmp 2) 1, type := 0, pos := _, after := #[], guard := none }) (v := ?_) rfl (by kernel_rfl) (by kernel_rfl) (by kernel_rfl) (fun _ _ _ h => h) (Or.inl ⟨by rfl, ?_⟩) S0'.out ?_
              rotate_left
              · intro W hW; (go_simp; try with_reducible rfl)
              try simp only [Act.put, List.setIfInBounds_toArray, List.set_cons_zero, List.set_cons_succ]
              refine wpAnyH_take (i := 3) (oi := { dst := some 47, op := Go.Op.load 27 (Go.Operand.tmp 46), type := 27, pos := _, after := #[{ on := 2, ground := Go.Ground.data }], guard := none }) (v := ?_) rfl (by kernel_rfl) (by kernel_rfl) (by kernel_rfl) (fun _ _ _ h => h) (Or.inl ⟨by rfl, ?_⟩) S0'.out ?_
              rotate_left
              · intro W hW; have q16 := (G0.out.upto hW hg0.out).cell (sc_cloud (.slice A c.length cp) HF.out.len); (go_simp; try with_reducible rfl)
              try simp only [Act.put, List.setIfInBounds_toArray, List.set_cons_zero, List.set_cons_succ]
              refine wpAnyH_take (i := 4) (oi := { dst := some 48, op := Go.Op.move (Go.Operand.tmp 7), type := 3, pos := _, after := #[], guard := none }) (v := ?_) rfl (by kernel_rfl) (by kernel_rfl) (by kernel_rfl) (fun _ _ _ h => h) (Or.inl ⟨by rfl, ?_⟩) S0'.out ?_
              rotate_left
              · intro W hW; (go_simp; try with_reducible rfl)
              try simp only [Act.put, List.setIfInBounds_toArray, List.set_cons_zero, List.set_cons_succ]
              refine wpAnyH_take (i := 5) (oi := { dst := some 49, op := Go.Op.indexAddr 27 (Go.Operand.tmp 47) (Go.Operand.tmp 48), type := 0, pos := _, after := #[{ on := 3, ground := Go.Ground.data }, { on := 4, ground := Go.Ground.data }], guard := none }) (v := .pointer (some ⟨G, p, none⟩)) rfl (by kernel_rfl) (by kernel_rfl) (by kernel_rfl) (fun _ _ _ h => h) (Or.inl ⟨by rfl, fun W hW => exec_indexN u24n (.tmp 47) (.tmp 48) rfl A _ _ G p j _ rfl rfl rfl E.out⟩) S0'.out ?_
              try simp only [Act.put, List.setIfInBounds_toArray, List.set_cons_zero, List.set_cons_succ]
              refine wpAnyH_take (i := 6) (oi := { dst := some 50, op := Go.Op.load 40 (Go.Operand.tmp 49), type := 40, pos := _, after := #[{ on := 5, ground := Go.Ground.data }], guard := none }) (v := .int .u64 z) rfl (by kernel_rfl) (by kernel_rfl) (by kernel_rfl) (fun _ _ _ h => h) (Or.inl ⟨by rfl, fun W hW => exec_load_num (.tmp 49) rfl G p z rfl ((hW.cell (p := ⟨G, p, none⟩) BG.out).trans CZ.out)⟩) S0'.out ?_
              try simp only [Act.put, List.setIfInBounds_toArray, List.set_cons_zero, List.set_cons_succ]
              refine wpAnyH_ready (rs := [1, 7]) (by kernel_rfl) (by simp) ?_
              refine ready_val (o := { dst := some 45, op := Go.Op.load 27 (Go.Operand.tmp 44), type := 27, pos := _, after := #[{ on := 0, ground := Go.Ground.data }], guard := none }) rfl rfl _ _ (exec_load_c (.tmp 44) rfl go 16 _ _ _ rfl k0.out) ⟨S0'.out, ?_⟩ ?_
              · try simp only [Act.put, List.setIfInBounds_toArray, List.set_cons_zero, List.set_cons_succ]
                refine wpAnyH_ready (rs := [7]) (by kernel_rfl) (by simp) ?_
                refine ready_val (o := { dst := some 51, op := Go.Op.buildSlice 27 1 #[(0, Go.Operand.tmp 50)], type := 27, pos := _, after := #[{ on := 6, ground := Go.Ground.data }], guard := none }) rfl rfl _ _ (exec_num1 u24n (.tmp 50) rfl z rfl) ⟨SA.out, ?_⟩ AllReadyH.nil
                try simp only [Act.put, List.setIfInBounds_toArray, List.set_cons_zero, List.set_cons_succ]
                refine wpAnyH_ready (rs := [8]) (by kernel_rfl) (by simp) ?_
                refine ready_val (o := { dst := some 52, op := Go.Op.call { callee := Go.Callee.builtin Go.Builtin.append, args := #[Go.Operand.tmp 45, Go.Operand.tmp 51], argTypes := #[27, 27] }, type := 27, pos := _, after := #[{ on := 1, ground := Go.Ground.data }, { on := 7, ground := Go.Ground.data }], guard := none }) rfl rfl _ _ (exec_app (.tmp 45) (.tmp 51) rfl _ _ _ rfl rfl HE.out) ⟨SB.out, ?_⟩ AllReadyH.nil
                try simp only [Act.put, List.setIfInBounds_toArray, List.set_cons_zero, List.set_cons_succ]
                refine wpAnyH_take (i := 9) (oi := { dst := some 53, op := Go.Op.fieldAddr 33 (Go.Operand.tmp 5) 1, type := 0, pos := _, after := #[{ on := 0, ground := Go.Ground.phase }, { on := 1, ground := Go.Ground.phase }, { on := 2, ground := Go.Ground.phase }, { on := 3, ground := Go.Ground.phase }, { on := 4, ground := Go.Ground.phase }, { on := 5, ground := Go.Ground.phase }, { on := 6, ground := Go.Ground.phase }, { on := 7, ground := Go.Ground.phase }, { on := 8, ground := Go.Ground.phase }], guard := none }) (v := ?_) rfl (by kernel_rfl) (by kernel_rfl) (by kernel_rfl) (fun _ _ _ h => h) (Or.inl ⟨by rfl, ?_⟩) SB.out ?_
                rotate_left
                · intro W hW; (go_simp; try with_reducible rfl)
                try simp only [Act.put, List.setIfInBounds_toArray, List.set_cons_zero, List.set_cons_succ]
                refine wpAnyH_ready (rs := [10]) (by kernel_rfl) (by simp) ?_
                refine ready_skip (o := { dst := none, op := Go.Op.store 27 (Go.Operand.tmp 53) (Go.Operand.tmp 52), type := 0, pos := _, after := #[{ on := 9, ground := Go.Ground.data }, { on := 8, ground := Go.Ground.data }, { on := 8, ground := Go.Ground.chain }, { on := 0, ground := Go.Ground.phase }, { on := 1, ground := Go.Ground.phase }, { on := 2, ground := Go.Ground.phase }, { on := 3, ground := Go.Ground.phase }, { on := 4, ground := Go.Ground.phase }, { on := 5, ground := Go.Ground.phase }, { on := 6, ground := Go.Ground.phase }, { on := 7, ground := Go.Ground.phase }, { on := 8, ground := Go.Ground.phase }], guard := none }) rfl rfl _ (exec_store_c (.tmp 53) (.tmp 52) rfl go 16 _ _ _ _ rfl rfl k3.out f3.out) ⟨SC.out, ?_⟩ AllReadyH.nil
                simp only [Act.put]
                refine wpAnyH_done (by kernel_rfl) ?_ _
                refine NoPanic.normal ?_
                go_wp2_with fail
                have S4 := Lib.hid (show Blk (w3'.setCell ⟨go, 16, none⟩ (.slice E1 n1 e1)) go 33 (sc f (.slice E1 n1 e1)) by rw [← sc_put (.slice A' o.length c') _ HF.out.len]; exact S3.out.set 16 _)
                have C4 := Lib.hid (O3.out.only O4.out (fun k hk e => O3.out.neT S3.out (by decide) (by rw [hk, e])))
                go_roundw
                case rel =>
                  have en3 := HN3.out
                  subst en3
                  refine ⟨j + 1, E1, e1, by omega, by go_num, by rw [PE.out], ?_, ?_, G0.out.upto SC.out hg0.out, R0.out.upto SC.out hgrgo.out, BB.out.trans (SC.out.mono hgo.out), Nat.le_trans hsz SC.out.size⟩
                  · rw [PE.out]; exact S4.out
                  · rw [PE.out]; exact C4.out
                case measure => simp [intOf]; omega
              refine ready_val (o := { dst := some 51, op := Go.Op.buildSlice 27 1 #[(0, Go.Operand.tmp 50)], type := 27, pos := _, after := #[{ on := 6, ground := Go.Ground.data }], guard := none }) rfl rfl _ _ (exec_num1 u24n (.tmp 50) rfl z rfl) ⟨SA.out, ?_⟩ AllReadyH.nil
              try simp only [Act.put, List.setIfInBounds_toArray, List.set_cons_zero, List.set_cons_succ]
              refine wpAnyH_ready (rs := [1]) (by kernel_rfl) (by simp) ?_
              refine ready_val (o := { dst := some 45, op := Go.Op.load 27 (Go.Operand.tmp 44), type := 27, pos := _, after := #[{ on := 0, ground := Go.Ground.data }], guard := none }) rfl rfl _ _ (exec_load_c (.tmp 44) rfl go 16 _ _ _ rfl k1.out) ⟨SA.out, ?_⟩ AllReadyH.nil
              try simp only [Act.put, List.setIfInBounds_toArray, List.set_cons_zero, List.set_cons_succ]
              refine wpAnyH_ready (rs := [8]) (by kernel_rfl) (by simp) ?_
              refine ready_val (o := { dst := some 52, op := Go.Op.call { callee := Go.Callee.builtin Go.Builtin.append, args := #[Go.Operand.tmp 45, Go.Operand.tmp 51], argTypes := #[27, 27] }, type := 27, pos := _, after := #[{ on := 1, ground := Go.Ground.data }, { on := 7, ground := Go.Ground.data }], guard := none }) rfl rfl _ _ (exec_app (.tmp 45) (.tmp 51) rfl _ _ _ rfl rfl HE.out) ⟨SB.out, ?_⟩ AllReadyH.nil
              try simp only [Act.put, List.setIfInBounds_toArray, List.set_cons_zero, List.set_cons_succ]
              refine wpAnyH_take (i := 9) (oi := { dst := some 53, op := Go.Op.fieldAddr 33 (Go.Operand.tmp 5) 1, type := 0, pos := _, after := #[{ on := 0, ground := Go.Ground.phase }, { on := 1, ground := Go.Ground.phase }, { on := 2, ground := Go.Ground.phase }, { on := 3, ground := Go.Ground.phase }, { on := 4, ground := Go.Ground.phase }, { on := 5, ground := Go.Ground.phase }, { on := 6, ground := Go.Ground.phase }, { on := 7, ground := Go.Ground.phase }, { on := 8, ground := Go.Ground.phase }], guard := none }) (v := ?_) rfl (by kernel_rfl) (by kernel_rfl) (by kernel_rfl) (fun _ _ _ h => h) (Or.inl ⟨by rfl, ?_⟩) SB.out ?_
              rotate_left
              · intro W hW; (go_simp; try with_reducible rfl)
              try simp only [Act.put, List.setIfInBounds_toArray, List.set_cons_zero, List.set_cons_succ]
              refine wpAnyH_ready (rs := [10]) (by kernel_rfl) (by simp) ?_
              refine ready_skip (o := { dst := none, op := Go.Op.store 27 (Go.Operand.tmp 53) (Go.Operand.tmp 52), type := 0, pos := _, after := #[{ on := 9, ground := Go.Ground.data }, { on := 8, ground := Go.Ground.data }, { on := 8, ground := Go.Ground.chain }, { on := 0, ground := Go.Ground.phase }, { on := 1, ground := Go.Ground.phase }, { on := 2, ground := Go.Ground.phase }, { on := 3, ground := Go.Ground.phase }, { on := 4, ground := Go.Ground.phase }, { on := 5, ground := Go.Ground.phase }, { on := 6, ground := Go.Ground.phase }, { on := 7, ground := Go.Ground.phase }, { on := 8, ground := Go.Ground.phase }], guard := none }) rfl rfl _ (exec_store_c (.tmp 53) (.tmp 52) rfl go 16 _ _ _ _ rfl rfl k3.out f3.out) ⟨SC.out, ?_⟩ AllReadyH.nil
              simp only [Act.put]
              refine wpAnyH_done (by kernel_rfl) ?_ _
              refine NoPanic.normal ?_
              go_wp2_with fail
              have S4 := Lib.hid (show Blk (w3'.setCell ⟨go, 16, none⟩ (.slice E1 n1 e1)) go 33 (sc f (.slice E1 n1 e1)) by rw [← sc_put (.slice A' o.length c') _ HF.out.len]; exact S3.out.set 16 _)
              have C4 := Lib.hid (O3.out.only O4.out (fun k hk e => O3.out.neT S3.out (by decide) (by rw [hk, e])))
              go_roundw
              case rel =>
                have en3 := HN3.out
                subst en3
                refine ⟨j + 1, E1, e1, by omega, by go_num, by rw [PE.out], ?_, ?_, G0.out.upto SC.out hg0.out, R0.out.upto SC.out hgrgo.out, BB.out.trans (SC.out.mono hgo.out), Nat.le_trans hsz SC.out.size⟩
                · rw [PE.out]; exact S4.out
                · rw [PE.out]; exact C4.out
              case measure => simp [intOf]; omega
            | true =>
              have PE := Lib.hid (show psts x (c.take (j + 1)) = (true, o ++ [x] ++ [z]) by rw [PN.out]; simp only [pstep, hrz]; rfl)
              have k16 := S0.out.cell (sc_cloud (.slice A' o.length c') HF.out.len)
              go_wp2_with (first
                | go_skip
                | (refine wanted_on rfl ?_; refine wpList_indexN u24n rfl _ _ rfl _ _ _ G p j _ rfl rfl rfl E.out ?_)
                | (refine wpList_num1 u24n rfl _ rfl x rfl HX.out ?_; intro gn w8 egn N8 b8; clear k16)
                | (refine wpList_app_n u24n rfl _ _ rfl w5.heap.size _ _ o [x] rfl rfl (O0.out.below b8.out) N8.out (by rw [List.length_singleton]; omega) (Nat.le_trans hsz b8.out.size) ?_; intro E9 k9 c9 w9 hk9 C9 b9 _; have S9 := Lib.hid ((S0.out.below b8.out).upto b9.out hgo5.out); have k16' := S9.out.cell (sc_cloud (.slice A' o.length c') HF.out.len); have f16 := S9.out.frozen 16))
              have O10 := Lib.hid (Only.set go 16 w9 (.slice E9 k9 c9))
              have S10 := Lib.hid (show Blk (w9.setCell ⟨go, 16, none⟩ (.slice E9 k9 c9)) go 33 (sc f (.slice E9 k9 c9)) by rw [← sc_put (.slice A' o.length c') _ HF.out.len]; exact S9.out.set 16 _)
              have C10 := Lib.hid (C9.out.only O10.out (fun k hk e => C9.out.neT S9.out (by decide) (by rw [hk, e])))
              have x10 := Lib.hid (show Below go wr (w9.setCell ⟨go, 16, none⟩ (.slice E9 k9 c9)) from ((b8.out.mono (by have := S0.out.lt; omega)).trans (b9.out.mono (by have := hgo5.out; omega))).trans (O10.out.below (Nat.le_refl _) (by have := S9.out.lt; omega)))
              have B10 := Lib.hid (BB.out.trans (x10.out.mono hgo.out))
              have G10 := Lib.hid (G0.out.upto x10.out hg0.out)
              have R10 := Lib.hid (R0.out.upto x10.out hgrgo.out)
              have z10 := Lib.hid (Nat.le_trans hsz x10.out.size)
              have CZ10 := Lib.hid ((x10.out.cell (p := ⟨G, p, none⟩) BG.out).trans CZ.out)
              clear S9 C9 b8 b9 N8 k16' f16
              obtain ⟨E1, n1, e1, w3', he, hn3, ho3, hb3⟩ := app_one (w9.setCell ⟨go, 16, none⟩ (.slice E9 k9 c9)).drew w5.heap.size E9 k9 c9 (o ++ [x]) z C10.out.drew HZR.out (by first | omega | (rw [List.length_append, List.length_singleton]; omega)) z10.out
              have HE := Lib.hid he
              have HN3 := Lib.hid hn3
              have O3 := Lib.hid ho3
              have S0' := Lib.hid (show Below go (w9.setCell ⟨go, 16, none⟩ (.slice E9 k9 c9)) (w9.setCell ⟨go, 16, none⟩ (.slice E9 k9 c9)).drew from below_drew (Below.refl _ _))
              have SA := Lib.hid (show Below go (w9.setCell ⟨go, 16, none⟩ (.slice E9 k9 c9)) ((w9.setCell ⟨go, 16, none⟩ (.slice E9 k9 c9)).drew.alloc (.cells #[.int .u64 z] 40)) from S0'.out.trans ((new_below (w9.setCell ⟨go, 16, none⟩ (.slice E9 k9 c9)).drew (.cells #[.int .u64 z] 40)).mono (Nat.le_of_lt S10.out.lt)))
              have SB := Lib.hid (show Below go (w9.setCell ⟨go, 16, none⟩ (.slice E9 k9 c9)) w3' from SA.out.trans (hb3.mono (Nat.le_of_lt hgo5.out)))
              have k0 := Lib.hid (show (w9.setCell ⟨go, 16, none⟩ (.slice E9 k9 c9)).drew.cell? ⟨go, 16, none⟩ = some (.slice E9 k9 c9) from (S10.out.drew).cell (sc_cloud _ HF.out.len))
              have k1 := Lib.hid (show ((w9.setCell ⟨go, 16, none⟩ (.slice E9 k9 c9)).drew.alloc (.cells #[.int .u64 z] 40)).cell? ⟨go, 16, none⟩ = some (.slice E9 k9 c9) from ((S10.out.drew).alloc _).cell (sc_cloud _ HF.out.len))
              have S3 := Lib.hid (show Blk w3' go 33 (sc f (.slice E9 k9 c9)) from ((S10.out.drew).alloc (.cells #[.int .u64 z] 40)).upto hb3 hgo5.out)
              have k3 := Lib.hid (S3.out.cell (sc_cloud _ HF.out.len))
              have f3 := Lib.hid (S3.out.frozen 16)
              have O4 := Lib.hid (Only.set go 16 w3' (.slice E1 n1 e1))
              have SC := Lib.hid (show Below go (w9.setCell ⟨go, 16, none⟩ (.slice E9 k9 c9)) (w3'.setCell ⟨go, 16, none⟩ (.slice E1 n1 e1)) from SB.out.trans (O4.out.below (Nat.le_refl _) (Nat.le_of_lt S3.out.lt)))
              clear he ho3 hb3 hn3 c16
              refine wp_region_noPanic ?_
              refine wp_region_held_drew (S := fun W => Below go (w9.setCell ⟨go, 16, none⟩ (.slice E9 k9 c9)) W) (by kernel_rfl) S0'.out (fun _ => ?_)
              refine wpAnyH_take (i := 0) (oi := { dst := some 44, op := Go.Op.fieldAddr 33 (Go.Operand.tmp 5) 1, type := 0, pos := _, after := #[], guard := none }) (v := ?_) rfl (by kernel_rfl) (by kernel_rfl) (by kernel_rfl) (fun _ _ _ h => h) (Or.inl ⟨by rfl, ?_⟩) S0'.out ?_
              rotate_left
              · intro W hW; (go_simp; try with_reducible rfl)
              try simp only [Act.put, List.setIfInBounds_toArray, List.set_cons_zero, List.set_cons_succ]
              refine wpAnyH_take (i := 2) (oi := { dst := some 46, op := Go.Op.fieldAddr 33 (Go.Operand.tmp 2) 1, type := 0, pos := _, after := #[], guard := none }) (v := ?_) rfl (by kernel_rfl) (by kernel_rfl) (by kernel_rfl) (fun _ _ _ h => h) (Or.inl ⟨by rfl, ?_⟩) S0'.out ?_
              rotate_left
              · intro W hW; (go_simp; try with_reducible rfl)
              try simp only [Act.put, List.setIfInBounds_toArray, List.set_cons_zero, List.set_cons_succ]
              refine wpAnyH_take (i := 3) (oi := { dst := some 47, op := Go.Op.load 27 (Go.Operand.tmp 46), type := 27, pos := _, after := #[{ on := 2, ground := Go.Ground.data }], guard := none }) (v := ?_) rfl (by kernel_rfl) (by kernel_rfl) (by kernel_rfl) (fun _ _ _ h => h) (Or.inl ⟨by rfl, ?_⟩) S0'.out ?_
              rotate_left
              · intro W hW; have q16 := (G10.out.upto hW hg0.out).cell (sc_cloud (.slice A c.length cp) HF.out.len); (go_simp; try with_reducible rfl)
              try simp only [Act.put, List.setIfInBounds_toArray, List.set_cons_zero, List.set_cons_succ]
              refine wpAnyH_take (i := 4) (oi := { dst := some 48, op := Go.Op.move (Go.Operand.tmp 7), type := 3, pos := _, after := #[], guard := none }) (v := ?_) rfl (by kernel_rfl) (by kernel_rfl) (by kernel_rfl) (fun _ _ _ h => h) (Or.inl ⟨by rfl, ?_⟩) S0'.out ?_
              rotate_left
              · intro W hW; (go_simp; try with_reducible rfl)
              try simp only [Act.put, List.setIfInBounds_toArray, List.set_cons_zero, List.set_cons_succ]
              refine wpAnyH_take (i := 5) (oi := { dst := some 49, op := Go.Op.indexAddr 27 (Go.Operand.tmp 47) (Go.Operand.tmp 48), type := 0, pos := _, after := #[{ on := 3, ground := Go.Ground.data }, { on := 4, ground := Go.Ground.data }], guard := none }) (v := .pointer (some ⟨G, p, none⟩)) rfl (by kernel_rfl) (by kernel_rfl) (by kernel_rfl) (fun _ _ _ h => h) (Or.inl ⟨by rfl, fun W hW => exec_indexN u24n (.tmp 47) (.tmp 48) rfl A _ _ G p j _ rfl rfl rfl E.out⟩) S0'.out ?_
              try simp only [Act.put, List.setIfInBounds_toArray, List.set_cons_zero, List.set_cons_succ]
              refine wpAnyH_take (i := 6) (oi := { dst := some 50, op := Go.Op.load 40 (Go.Operand.tmp 49), type := 40, pos := _, after := #[{ on := 5, ground := Go.Ground.data }], guard := none }) (v := .int .u64 z) rfl (by kernel_rfl) (by kernel_rfl) (by kernel_rfl) (fun _ _ _ h => h) (Or.inl ⟨by rfl, fun W hW => exec_load_num (.tmp 49) rfl G p z rfl ((hW.cell (p := ⟨G, p, none⟩) BG.out).trans CZ10.out)⟩) S0'.out ?_
              try simp only [Act.put, List.setIfInBounds_toArray, List.set_cons_zero, List.set_cons_succ]
              refine wpAnyH_ready (rs := [1, 7]) (by kernel_rfl) (by simp) ?_
              refine ready_val (o := { dst := some 45, op := Go.Op.load 27 (Go.Operand.tmp 44), type := 27, pos := _, after := #[{ on := 0, ground := Go.Ground.data }], guard := none }) rfl rfl _ _ (exec_load_c (.tmp 44) rfl go 16 _ _ _ rfl k0.out) ⟨S0'.out, ?_⟩ ?_
              · try simp only [Act.put, List.setIfInBounds_toArray, List.set_cons_zero, List.set_cons_succ]
                refine wpAnyH_ready (rs := [7]) (by kernel_rfl) (by simp) ?_
                refine ready_val (o := { dst := some 51, op := Go.Op.buildSlice 27 1 #[(0, Go.Operand.tmp 50)], type := 27, pos := _, after := #[{ on := 6, ground := Go.Ground.data }], guard := none }) rfl rfl _ _ (exec_num1 u24n (.tmp 50) rfl z rfl) ⟨SA.out, ?_⟩ AllReadyH.nil
                try simp only [Act.put, List.setIfInBounds_toArray, List.set_cons_zero, List.set_cons_succ]
                refine wpAnyH_ready (rs := [8]) (by kernel_rfl) (by simp) ?_
                refine ready_val (o := { dst := some 52, op := Go.Op.call { callee := Go.Callee.builtin Go.Builtin.append, args := #[Go.Operand.tmp 45, Go.Operand.tmp 51], argTypes := #[27, 27] }, type := 27, pos := _, after := #[{ on := 1, ground := Go.Ground.data }, { on := 7, ground := Go.Ground.data }], guard := none }) rfl rfl _ _ (exec_app (.tmp 45) (.tmp 51) rfl _ _ _ rfl rfl HE.out) ⟨SB.out, ?_⟩ AllReadyH.nil
                try simp only [Act.put, List.setIfInBounds_toArray, List.set_cons_zero, List.set_cons_succ]
                refine wpAnyH_take (i := 9) (oi := { dst := some 53, op := Go.Op.fieldAddr 33 (Go.Operand.tmp 5) 1, type := 0, pos := _, after := #[{ on := 0, ground := Go.Ground.phase }, { on := 1, ground := Go.Ground.phase }, { on := 2, ground := Go.Ground.phase }, { on := 3, ground := Go.Ground.phase }, { on := 4, ground := Go.Ground.phase }, { on := 5, ground := Go.Ground.phase }, { on := 6, ground := Go.Ground.phase }, { on := 7, ground := Go.Ground.phase }, { on := 8, ground := Go.Ground.phase }], guard := none }) (v := ?_) rfl (by kernel_rfl) (by kernel_rfl) (by kernel_rfl) (fun _ _ _ h => h) (Or.inl ⟨by rfl, ?_⟩) SB.out ?_
                rotate_left
                · intro W hW; (go_simp; try with_reducible rfl)
                try simp only [Act.put, List.setIfInBounds_toArray, List.set_cons_zero, List.set_cons_succ]
                refine wpAnyH_ready (rs := [10]) (by kernel_rfl) (by simp) ?_
                refine ready_skip (o := { dst := none, op := Go.Op.store 27 (Go.Operand.tmp 53) (Go.Operand.tmp 52), type := 0, pos := _, after := #[{ on := 9, ground := Go.Ground.data }, { on := 8, ground := Go.Ground.data }, { on := 8, ground := Go.Ground.chain }, { on := 0, ground := Go.Ground.phase }, { on := 1, ground := Go.Ground.phase }, { on := 2, ground := Go.Ground.phase }, { on := 3, ground := Go.Ground.phase }, { on := 4, ground := Go.Ground.phase }, { on := 5, ground := Go.Ground.phase }, { on := 6, ground := Go.Ground.phase }, { on := 7, ground := Go.Ground.phase }, { on := 8, ground := Go.Ground.phase }], guard := none }) rfl rfl _ (exec_store_c (.tmp 53) (.tmp 52) rfl go 16 _ _ _ _ rfl rfl k3.out f3.out) ⟨SC.out, ?_⟩ AllReadyH.nil
                simp only [Act.put]
                refine wpAnyH_done (by kernel_rfl) ?_ _
                refine NoPanic.normal ?_
                go_wp2_with fail
                have S4 := Lib.hid (show Blk (w3'.setCell ⟨go, 16, none⟩ (.slice E1 n1 e1)) go 33 (sc f (.slice E1 n1 e1)) by rw [← sc_put (.slice E9 k9 c9) _ HF.out.len]; exact S3.out.set 16 _)
                have C4 := Lib.hid (O3.out.only O4.out (fun k hk e => O3.out.neT S3.out (by decide) (by rw [hk, e])))
                go_roundw
                case rel =>
                  have en3 := HN3.out
                  subst en3
                  refine ⟨j + 1, E1, e1, by omega, by go_num, by rw [PE.out], ?_, ?_, G10.out.upto SC.out hg0.out, R10.out.upto SC.out hgrgo.out, B10.out.trans (SC.out.mono hgo.out), Nat.le_trans z10.out SC.out.size⟩
                  · rw [PE.out]; exact S4.out
                  · rw [PE.out]; exact C4.out
                case measure => simp [intOf]; omega
              refine ready_val (o := { dst := some 51, op := Go.Op.buildSlice 27 1 #[(0, Go.Operand.tmp 50)], type := 27, pos := _, after := #[{ on := 6, ground := Go.Ground.data }], guard := none }) rfl rfl _ _ (exec_num1 u24n (.tmp 50) rfl z rfl) ⟨SA.out, ?_⟩ AllReadyH.nil
              try simp only [Act.put, List.setIfInBounds_toArray, List.set_cons_zero, List.set_cons_succ]
              refine wpAnyH_ready (rs := [1]) (by kernel_rfl) (by simp) ?_
              refine ready_val (o := { dst := some 45, op := Go.Op.load 27 (Go.Operand.tmp 44), type := 27, pos := _, after := #[{ on := 0, ground := Go.Ground.data }], guard := none }) rfl rfl _ _ (exec_load_c (.tmp 44) rfl go 16 _ _ _ rfl k1.out) ⟨SA.out, ?_⟩ AllReadyH.nil
              try simp only [Act.put, List.setIfInBounds_toArray, List.set_cons_zero, List.set_cons_succ]
              refine wpAnyH_ready (rs := [8]) (by kernel_rfl) (by simp) ?_
              refine ready_val (o := { dst := some 52, op := Go.Op.call { callee := Go.Callee.builtin Go.Builtin.append, args := #[Go.Operand.tmp 45, Go.Operand.tmp 51], argTypes := #[27, 27] }, type := 27, pos := _, after := #[{ on := 1, ground := Go.Ground.data }, { on := 7, ground := Go.Ground.data }], guard := none }) rfl rfl _ _ (exec_app (.tmp 45) (.tmp 51) rfl _ _ _ rfl rfl HE.out) ⟨SB.out, ?_⟩ AllReadyH.nil
              try simp only [Act.put, List.setIfInBounds_toArray, List.set_cons_zero, List.set_cons_succ]
              refine wpAnyH_take (i := 9) (oi := { dst := some 53, op := Go.Op.fieldAddr 33 (Go.Operand.tmp 5) 1, type := 0, pos := _, after := #[{ on := 0, ground := Go.Ground.phase }, { on := 1, ground := Go.Ground.phase }, { on := 2, ground := Go.Ground.phase }, { on := 3, ground := Go.Ground.phase }, { on := 4, ground := Go.Ground.phase }, { on := 5, ground := Go.Ground.phase }, { on := 6, ground := Go.Ground.phase }, { on := 7, ground := Go.Ground.phase }, { on := 8, ground := Go.Ground.phase }], guard := none }) (v := ?_) rfl (by kernel_rfl) (by kernel_rfl) (by kernel_rfl) (fun _ _ _ h => h) (Or.inl ⟨by rfl, ?_⟩) SB.out ?_
              rotate_left
              · intro W hW; (go_simp; try with_reducible rfl)
              try simp only [Act.put, List.setIfInBounds_toArray, List.set_cons_zero, List.set_cons_succ]
              refine wpAnyH_ready (rs := [10]) (by kernel_rfl) (by simp) ?_
              refine ready_skip (o := { dst := none, op := Go.Op.store 27 (Go.Operand.tmp 53) (Go.Operand.tmp 52), type := 0, pos := _, after := #[{ on := 9, ground := Go.Ground.data }, { on := 8, ground := Go.Ground.data }, { on := 8, ground := Go.Ground.chain }, { on := 0, ground := Go.Ground.phase }, { on := 1, ground := Go.Ground.phase }, { on := 2, ground := Go.Ground.phase }, { on := 3, ground := Go.Ground.phase }, { on := 4, ground := Go.Ground.phase }, { on := 5, ground := Go.Ground.phase }, { on := 6, ground := Go.Ground.phase }, { on := 7, ground := Go.Ground.phase }, { on := 8, ground := Go.Ground.phase }], guard := none }) rfl rfl _ (exec_store_c (.tmp 53) (.tmp 52) rfl go 16 _ _ _ _ rfl rfl k3.out f3.out) ⟨SC.out, ?_⟩ AllReadyH.nil
              simp only [Act.put]
              refine wpAnyH_done (by kernel_rfl) ?_ _
              refine NoPanic.normal ?_
              go_wp2_with fail
              have S4 := Lib.hid (show Blk (w3'.setCell ⟨go, 16, none⟩ (.slice E1 n1 e1)) go 33 (sc f (.slice E1 n1 e1)) by rw [← sc_put (.slice E9 k9 c9) _ HF.out.len]; exact S3.out.set 16 _)
              have C4 := Lib.hid (O3.out.only O4.out (fun k hk e => O3.out.neT S3.out (by decide) (by rw [hk, e])))
              go_roundw
              case rel =>
                have en3 := HN3.out
                subst en3
                refine ⟨j + 1, E1, e1, by omega, by go_num, by rw [PE.out], ?_, ?_, G10.out.upto SC.out hg0.out, R10.out.upto SC.out hgrgo.out, B10.out.trans (SC.out.mono hgo.out), Nat.le_trans z10.out SC.out.size⟩
                · rw [PE.out]; exact S4.out
                · rw [PE.out]; exact C4.out
              case measure => simp [intOf]; omega
        · obtain rfl : j = c.length := by omega
          have hs2 := HS.out
          rw [List.take_length] at hs2
          obtain ⟨b, o⟩ := s
          have hol : o.length ≤ 5002 := hsl
          cases b with
          | true =>
            obtain rfl : o = l := by rw [← hl2.out]; unfold insd; rw [hs2]; rfl
            go_wp2_with (first
              | refine wpList_load_s t26 rfl _ rfl go f _ rfl S0.out HF.out.len ?_
              | (refine wpList_store_s t26 rfl _ _ rfl gr vz f _ A' o.length c' rfl rfl R0.out vz_len HF.out.len ?_; intro w6 R6 o6))
            refine bodyPost_ret (results_s t26 rfl _ _ gr f _ rfl R6.out HF.out.len) rfl ?_
            exact ⟨A', c', rfl, (O0.out.only o6.out (fun k hk e => O0.out.neT R0.out (by decide) (by rw [hk, e]))).at_, BB.out.trans (o6.out.below hgr.out BB.out.size)⟩
          | false =>
            obtain rfl : o ++ [x] = l := by rw [← hl2.out]; unfold insd; rw [hs2]; rfl
            have k16 := S0.out.cell (sc_cloud (.slice A' o.length c') HF.out.len)
            go_wp2_with (first
              | (refine wpList_num1 u24n rfl _ rfl x rfl HX.out ?_; intro gn w8 egn N8 b8; clear k16)
              | (refine wpList_app_n u24n rfl _ _ rfl w5.heap.size _ _ o [x] rfl rfl (O0.out.below b8.out) N8.out (by rw [List.length_singleton]; omega) (Nat.le_trans hsz b8.out.size) ?_; intro E9 k9 c9 w9 hk9 C9 b9 _; have S9 := Lib.hid ((S0.out.below b8.out).upto b9.out hgo5.out); have k16' := S9.out.cell (sc_cloud (.slice A' o.length c') HF.out.len); have f16 := S9.out.frozen 16; have O10 := Lib.hid (Only.set go 16 w9 (.slice E9 k9 c9)); have S10 := Lib.hid (show Blk (w9.setCell ⟨go, 16, none⟩ (.slice E9 k9 c9)) go 33 (sc f (.slice E9 k9 c9)) by rw [← sc_put (.slice A' o.length c') _ HF.out.len]; exact S9.out.set 16 _); have C10 := Lib.hid (C9.out.only O10.out (fun k hk e => C9.out.neT S9.out (by decide) (by rw [hk, e]))); have x10 := Lib.hid (show Below go wr (w9.setCell ⟨go, 16, none⟩ (.slice E9 k9 c9)) from ((b8.out.mono (by have := S0.out.lt; omega)).trans (b9.out.mono (by have := hgo5.out; omega))).trans (O10.out.below (Nat.le_refl _) (by have := S9.out.lt; omega))); have R10 := Lib.hid (R0.out.upto x10.out hgrgo.out))
              | refine wpList_load_s t26 rfl _ rfl go f _ rfl S10.out HF.out.len ?_
              | (refine wpList_store_s t26 rfl _ _ rfl gr vz f _ E9 k9 c9 rfl rfl R10.out vz_len HF.out.len ?_; intro w6 R6 o6))
            refine bodyPost_ret (results_s t26 rfl _ _ gr f _ rfl R6.out HF.out.len) rfl ?_
            have ek := hk9.out
            subst ek
            exact ⟨E9, c9, rfl, (C10.out.only o6.out (fun k hk e => C10.out.neT R10.out (by decide) (by rw [hk, e]))).at_, (BB.out.trans (x10.out.mono hgo.out)).trans (o6.out.below hgr.out (BB.out.trans (x10.out.mono hgo.out)).size)⟩
end Go.Proofs.YtpgafijeecmgmaaGreat
namespace Go.Proofs.YtpgafijeecmgmaaGreat
open Go.RowKit

/-- How many dots lie in the set's cloud. -/
def csize (w : World) (g : Nat) : Nat := match w.cell? ⟨g, 16, none⟩ with | some (.slice _ n _) => n | _ => 0
theorem csize_is {w : World} {g t : Nat} {f : List Int} {A : Option Addr} {n c : Nat} (h : Blk w g t (sc f (.slice A n c))) (hf : f.length = 16) : csize w g = n := by
  unfold csize; rw [h.cell (sc_cloud _ hf)]
set_option maxRecDepth 100000 in
set_option maxHeartbeats 4000000 in
theorem rsettle_is (f0 l0 f c : List Int) (A : Option Addr) (cp : Nat) (w : World) (hf0 : VOk f0) (hR : Rnd f0 l0 f c) (h1 : NumsAt w (.slice A c.length cp) c) (hn1 : c.length ≤ 5000) (p : List Int × List Int) (hp : Hid (nrm f0 l0 = p)) :
    Calls Tryz.prog 19 #[.agg (sc f (.slice A c.length cp)).toArray] w (GivesP w p) := by
  have H1 := Lib.hid h1
  have HR := Lib.hid hR
  have HF0 := Lib.hid hf0
  clear h1 hR hf0
  go_enter Tryz.func19, Tryz.ntmps19
  go_wp2_with (first
    | (refine wpList_box_cs rfl _ rfl (sc f (.slice A c.length cp)) rfl ?_; intro g1 w1 eg1 G1 b1)
    | (refine wpList_alloc_s t26 rfl rfl ?_; intro gr w2 egr R2 b2))
  have G2 := Lib.hid (G1.out.below b2.out)
  have B2 := Lib.hid (b1.out.trans (b2.out.mono b1.out.size))
  have hgr := Lib.hid (show w.heap.size ≤ gr by have := egr.out; have := b1.out.size; omega)
  have hg1 := Lib.hid (show w.heap.size ≤ g1 by have := eg1.out; omega)
  have hne := Lib.hid (show g1 ≠ gr by have := egr.out; have := G1.out.lt; omega)
  clear G1 b1 b2 egr eg1
  try simp only [Act.put, List.setIfInBounds_toArray, List.set_cons_zero, List.set_cons_succ]
  go_loopw [3, 4, 5, 6, 7] (fun _ _ _ _ _ wr => ∃ (f' c' : List Int) (A' : Option Addr) (cp' : Nat), Blk wr g1 33 (sc f' (.slice A' c'.length cp')) ∧ NumsAt wr (.slice A' c'.length cp') c' ∧ Rnd f0 l0 f' c' ∧ c'.length ≤ 5000 ∧ Blk wr gr 33 (sc vz (.slice none 0 0)) ∧ Below w.heap.size w wr) (fun _ _ _ _ _ wr => csize wr g1)
  case atStart => exact ⟨f, c, A, cp, G2.out, H1.out.below B2.out, HR.out, hn1, R2.out, B2.out⟩
  case round =>
    clear G2 R2 B2
    obtain ⟨f', c', A', cp', hg, hv, hr', hn', hrr, hb⟩ := hrel
    have G0 := Lib.hid hg
    have V0 := Lib.hid hv
    have RR := Lib.hid hr'
    have R0 := Lib.hid hrr
    have BB := Lib.hid hb
    have VF := Lib.hid hr'.inv.v
    have CS := Lib.hid (csize_is hg hr'.inv.v.len)
    clear hg hv hr' hrr hb
    go_wp2_with (first
      | refine wpList_load_v t23 rfl _ rfl g1 0 f' rfl (range_floor G0.out.range) VF.out.len ?_
      | (refine wpList_build rfl 33 _ rfl [(0, .agg (vc f').toArray)] rfl _ (built_s26o f' VF.out.len) ?_)
      | (refine wpList_alloc_s t26 rfl rfl ?_; intro go w4 ego S4 b4)
      | (refine wpList_store_s t26 rfl _ _ rfl go vz f' (.slice none 0 0) none 0 0 rfl rfl S4.out vz_len VF.out.len ?_; intro w5 S5 o5))
    have ego' := ego.out
    have W5 := Lib.hid (show Below wr.heap.size wr w5 from b4.out.trans (o5.out.below (by omega) b4.out.size))
    have hgo5 := Lib.hid (show go < w5.heap.size from S5.out.lt)
    have hgo := Lib.hid (show wr.heap.size ≤ go by omega)
    clear S4 b4 o5 ego ego'
    go_loopw [4, 5, 6, 7] (fun i _ _ _ wq => ∃ (j : Nat) (f2 o : List Int) (A2 : Option Addr) (c2 : Nat), j ≤ c'.length ∧ i = .int .i64 j ∧ Mid f0 l0 c' j f2 o ∧ Blk wq go 33 (sc f2 (.slice A2 o.length c2)) ∧ OwnN wq w5.heap.size (.slice A2 o.length c2) o ∧ Below wr.heap.size wr wq ∧ w5.heap.size ≤ wq.heap.size) (fun i _ _ _ _ => c'.length - (intOf i).toNat)
    case atStart => exact ⟨0, f', [], none, 0, Nat.zero_le _, rfl, RR.out.mid, S5.out, ownN_nil _ _, W5.out, Nat.le_refl _⟩
    case round =>
      clear S5 W5
      obtain ⟨j, f2, o, A2, c2, hj, rfl, hm, hs, ho, hb, hsz⟩ := hrel
      have M0 := Lib.hid hm
      have S0 := Lib.hid hs
      have O0 := Lib.hid ho
      have BQ := Lib.hid hb
      have V2 := Lib.hid hm.inv.v
      have hol : o.length ≤ 5000 := by have := hm.len; omega
      clear hm hs ho hb
      have G3 := Lib.hid (G0.out.below BQ.out)
      have c16 := G3.out.cell (sc_cloud (.slice A' c'.length cp') VF.out.len)
      by_cases hlt : j < c'.length
      · obtain ⟨G, pp, hE, hc, hG⟩ := (V0.out.below BQ.out).elem j hlt
        have E := Lib.hid hE
        obtain ⟨z, hz⟩ : ∃ z, c'.getD j 0 = z := ⟨_, rfl⟩
        have HZ := Lib.hid hz
        have HZR := Lib.hid (hz ▸ V0.out.nums.at_ j)
        have MA := M0.out.at hlt
        rw [hz] at hc MA
        have hm := may_iff.1 MA.1
        have hu := und_not.1 MA.2
        have hq : Int.tdiv z 4294967296 = z / 4294967296 := Int.tdiv_eq_ediv_of_nonneg hm.1
        have hmo : Int.tmod z 4294967296 = z % 4294967296 := Int.tmod_eq_emod_of_nonneg hm.1
        obtain ⟨k, hk⟩ : ∃ k : Nat, z / 4294967296 = (k : Int) := ⟨(z / 4294967296).toNat, by omega⟩
        obtain ⟨b, hbe⟩ : ∃ b, z % 4294967296 = b := ⟨_, rfl⟩
        have hk16 : k < 16 := by omega
        obtain ⟨y, hy⟩ : ∃ y, f2.getD k 0 = y := ⟨_, rfl⟩
        have hyr := V2.out.at k
        rw [hy] at hyr
        rw [hk, Int.toNat_natCast, hy, hbe] at hu
        have ca := S0.out.cell (sc_floor (.slice A2 o.length c2) V2.out.len k hk16)
        rw [hy] at ca
        have fr := S0.out.frozen k
        have e1 : IntKind.u64.wrap ((k : Int)) = (k : Int) := by rw [IntKind.wrap_u64]; omega
        have e2 : IntKind.u64.wrap b = b := by rw [IntKind.wrap_u64]; omega
        have e3 : IntKind.u64.wrap y = y := by rw [IntKind.wrap_u64]; omega
        have e4 : IntKind.u64.wrap (y + 1) = y + 1 := by rw [IntKind.wrap_u64]; omega
        have e5 : IntKind.u32.wrap b = b := by rw [IntKind.wrap_u32]; omega
        have hle : decide (b ≤ y) = false := decide_eq_false (by omega)
        have hnr : near f2 z = (b == y + 1) := by
          unfold near; rw [MA.2, Bool.false_or, hbe, hk, Int.toNat_natCast, hy, Bool.eq_iff_iff, decide_eq_true_eq, beq_iff_eq]; omega
        have HK := Lib.hid (show (z / 4294967296).toNat = k by omega)
        have HBE := Lib.hid hbe
        rw [hk] at hq
        rw [hbe] at hmo
        clear hE hz hm hu MA hk hbe hy hyr hG
        by_cases hby : b = y + 1
        · have hbq : (b == y + 1) = true := by simp [hby]
          have HN := Lib.hid (hnr.trans hbq)
          have O1 := Lib.hid (Only.set go k wr (.int .u32 b))
          have S1 := Lib.hid (show Blk (wr.setCell ⟨go, k, none⟩ (.int .u32 b)) go 33 (sc (f2.set k b) (.slice A2 o.length c2)) by rw [← sc_set _ V2.out.len k hk16]; exact S0.out.set k _)
          clear hnr hby
          go_wp2_with (first
            | refine wpList_indexN u24n rfl _ _ rfl _ _ _ G pp j _ rfl rfl rfl E.out ?_)
          go_roundw
          case rel =>
            refine ⟨j + 1, f2.set k b, o, A2, c2, by omega, by go_num, ?_, S1.out, O0.out.only O1.out (fun k hk e => O0.out.neT S0.out (by decide) (by rw [hk, e])), BQ.out.trans (O1.out.below hgo.out BQ.out.size), Nat.le_trans hsz O1.out.size⟩
            have := M0.out.join RR.out.srt hlt (by rw [HZ.out]; exact HN.out)
            rw [HZ.out, HK.out, HBE.out] at this
            exact this
          case measure => simp [intOf]; omega
        · have hbq : (b == y + 1) = false := by simp [hby]
          have HN := Lib.hid (hnr.trans hbq)
          have k16 := S0.out.cell (sc_cloud (.slice A2 o.length c2) V2.out.len)
          clear hnr hby
          go_wp2_with (first
            | refine wpList_indexN u24n rfl _ _ rfl _ _ _ G pp j _ rfl rfl rfl E.out ?_
            | (refine wpList_num1 u24n rfl _ rfl z rfl HZR.out ?_; intro gn w8 egn N8 b8; clear k16)
            | (refine wpList_app_n u24n rfl _ _ rfl w5.heap.size _ _ o [z] rfl rfl (O0.out.below b8.out) N8.out (by rw [List.length_singleton]; omega) (Nat.le_trans hsz b8.out.size) ?_; intro E9 k9 c9 w9 hk9 C9 b9 _; have S9 := Lib.hid ((S0.out.below b8.out).upto b9.out hgo5.out); have k16' := S9.out.cell (sc_cloud (.slice A2 o.length c2) V2.out.len); have f16 := S9.out.frozen 16))
          have O10 := Lib.hid (Only.set go 16 w9 (.slice E9 k9 c9))
          have S10 := Lib.hid (show Blk (w9.setCell ⟨go, 16, none⟩ (.slice E9 k9 c9)) go 33 (sc f2 (.slice E9 k9 c9)) by rw [← sc_put (.slice A2 o.length c2) _ V2.out.len]; exact S9.out.set 16 _)
          have C10 := Lib.hid (C9.out.only O10.out (fun k hk e => C9.out.neT S9.out (by decide) (by rw [hk, e])))
          have B9 := Lib.hid ((step_ BQ.out b8.out).trans (b9.out.mono (by have := hgo5.out; have := hgo.out; omega)))
          have B10 := Lib.hid (B9.out.trans (O10.out.below hgo.out B9.out.size))
          have z10 := Lib.hid (Nat.le_trans hsz (Nat.le_trans b8.out.size (Nat.le_trans b9.out.size O10.out.size)))
          go_roundw
          case rel =>
            have ek := hk9.out
            subst ek
            refine ⟨j + 1, f2, o ++ [z], E9, c9, by omega, by go_num, ?_, S10.out, C10.out, B10.out, z10.out⟩
            have := M0.out.far RR.out.srt hlt (by rw [HZ.out]; exact HN.out)
            rw [HZ.out] at this
            exact this
          case measure => simp [intOf]; omega
      · obtain rfl : j = c'.length := by omega
        have DN := Lib.hid (M0.out.done (Nat.le_refl _))
        have ML := M0.out.len
        have k16 := S0.out.cell (sc_cloud (.slice A2 o.length c2) V2.out.len)
        have R3 := Lib.hid (R0.out.below BQ.out)
        by_cases hlen : o.length = c'.length
        · have hle : ((o.length : Int) == (c'.length : Int)) = true := by simp [hlen]
          have en := DN.out.is_nrm HF0.out
          have HP := Lib.hid (show nrm f0 l0 = (f2, o) from Prod.ext en.1.symm en.2.symm)
          clear hlen en
          go_wp2_with (first
            | refine wpList_load_s t26 rfl _ rfl go f2 _ rfl S0.out V2.out.len ?_
            | (refine wpList_store_s t26 rfl _ _ rfl gr vz f2 _ A2 o.length c2 rfl rfl R3.out vz_len V2.out.len ?_; intro w6 R6 o6))
          refine bodyPost_ret (results_s t26 rfl _ _ gr f2 _ rfl R6.out V2.out.len) rfl ?_
          rw [← hp.out, HP.out]
          have x6 := BB.out.trans (BQ.out.mono BB.out.size)
          exact ⟨A2, c2, rfl, (O0.out.only o6.out (fun k hk e => O0.out.neT R3.out (by decide) (by rw [hk, e]))).at_, x6.trans (o6.out.below hgr.out x6.size)⟩
        · have hle : ((o.length : Int) == (c'.length : Int)) = false := by simp; omega
          have hlt2 : o.length < c'.length := by omega
          clear hlen
          go_wp2_with (first
            | refine wpList_load_s t26 rfl _ rfl go f2 _ rfl S0.out V2.out.len ?_
            | (refine wpList_store_s t26 rfl _ _ rfl g1 f' f2 _ A2 o.length c2 rfl rfl G3.out VF.out.len V2.out.len ?_; intro w6 G6 o6))
          have x6 := Lib.hid (BB.out.trans (BQ.out.mono BB.out.size))
          try simp only [Act.put, List.setIfInBounds_toArray, List.set_cons_zero, List.set_cons_succ]
          go_roundw
          case rel =>
            exact ⟨f2, o, A2, c2, G6.out, (O0.out.only o6.out (fun k hk e => O0.out.neT G3.out (by decide) (by rw [hk, e]))).at_, DN.out.again, by omega, R3.out.only o6.out hne.out.symm, x6.out.trans (o6.out.below hg1.out x6.out.size)⟩
          case measure =>
            rw [csize_is G6.out V2.out.len, CS.out]; exact hlt2
end Go.Proofs.YtpgafijeecmgmaaGreat
namespace Go.Proofs.YtpgafijeecmgmaaGreat
open Go.RowKit

theorem NumsAt.only_s {w w' : World} {g t : Nat} {v u : Value} {l f : List Int} (h : NumsAt w v l) (hb : Blk w g t (sc f u)) (hu : ∀ x, u ≠ .int .u64 x) (ho : Only g w w') : NumsAt w' v l := by
  obtain ⟨a, cap, hv, hcap, hr, hc⟩ := h
  refine ⟨a, cap, hv, hcap, hr, fun h0 => ?_⟩
  obtain ⟨G, off, ha, hG, hcell⟩ := hc h0
  have hne : G ≠ g := by
    intro e
    subst e
    have h1 := hcell 0 h0
    unfold Blk at hb
    rw [cell_of_row _ G _ _ t (0, 0) hb] at h1
    have h2 : (sc f u)[off + 0]? = some (.int .u64 (l.getD 0 0)) := by simpa using h1
    have h3 := List.mem_of_getElem? h2
    unfold sc vc at h3
    rcases List.mem_append.1 h3 with h4 | h4
    · obtain ⟨z, _, e⟩ := List.mem_map.1 h4
      cases e
    · exact hu _ (List.mem_singleton.1 h4).symm
  exact ⟨G, off, ha, Nat.lt_of_lt_of_le hG ho.size, fun i hi => by
    have e := ho.block G hG hne
    have : w'.cell? ⟨G, off + i, none⟩ = w.cell? ⟨G, off + i, none⟩ := by
      unfold World.cell?
      rw [e]
    rw [this]; exact hcell i hi⟩
theorem exec_neq_vr {o : Oper} {a : Act} {w : World} {t : TypeId} (T : VTy t) (x y : Operand) (u : TypeId) (ho : o.op = .binOp .neq t x y u) (A B : List Int) {r : Bool} (hx : a.eval x = .agg (vc A).toArray) (hy : a.eval y = .agg (vc B).toArray) (hA : A.length = 16) (hB : B.length = 16) (hr : (!(A == B)) = r) :
    (execOp a.eval o).run Tryz.prog w = .ok (.value (.bool r)) w := by rw [← hr]; exact exec_neq_v T x y u ho A B hx hy hA hB
set_option maxRecDepth 100000 in
set_option maxHeartbeats 4000000 in
theorem rsame_is (f c g e : List Int) (A A2 : Option Addr) (cp cp2 : Nat) (r : Bool) (w : World) (hf : VOk f) (hg : VOk g) (h1 : NumsAt w (.slice A c.length cp) c) (h2 : NumsAt w (.slice A2 e.length cp2) e) (hn : c.length ≤ 5000) (hr : Hid (decide (f = g ∧ c = e) = r)) :
    Calls Tryz.prog 6 #[.agg (sc f (.slice A c.length cp)).toArray, .agg (sc g (.slice A2 e.length cp2)).toArray] w fun e w' => e = .returned (.bool r) ∧ Below w.heap.size w w' := by
  have HF := Lib.hid hf
  have HG := Lib.hid hg
  have H1 := Lib.hid h1
  have H2 := Lib.hid h2
  clear hf hg h1 h2
  by_cases hfe : f = g
  · have hfg : (!(f == g)) = false := by simp [hfe]
    by_cases hlen : c.length = e.length
    · have hbn : ((c.length : Int) == (e.length : Int)) = true := by simp [hlen]
      have HL := Lib.hid hlen
      have hrc := Lib.hid (show decide (c = e) = r by rw [← hr.out]; simp [hfe])
      clear hlen hfe
      go_enter Tryz.func6, Tryz.ntmps6
      go_wp2_with (first
        | go_skip
        | (have _ := G1.out; refine wpList_box_cs rfl _ rfl (sc g (.slice A2 e.length cp2)) rfl ?_; intro g1 w2 eg1 K1 b2; have G0 := Lib.hid (G1.out.below b2.out); have BB := Lib.hid (b1.out.trans (b2.out.mono b1.out.size)); have k16 := G0.out.cell (sc_cloud (.slice A c.length cp) HF.out.len); have k17 := K1.out.cell (sc_cloud (.slice A2 e.length cp2) HG.out.len))
        | (refine wpList_box_cs rfl _ rfl (sc f (.slice A c.length cp)) rfl ?_; intro g0 w1 eg0 G1 b1)
        | refine wpList_load_v t23 rfl _ rfl g0 0 f rfl (range_floor G0.out.range) HF.out.len ?_
        | refine wpList_load_v t23 rfl _ rfl g1 0 g rfl (range_floor K1.out.range) HG.out.len ?_
        | refine wpList_val rfl _ (exec_neq_vr t23 _ _ _ rfl f g rfl rfl HF.out.len HG.out.len hfg) ?_)
      clear k16 k17
      go_loopw [5] (fun i wr => ∃ j : Nat, j ≤ c.length ∧ i = .int .i64 j ∧ decide (c.drop j = e.drop j) = r ∧ Below w2.heap.size w2 wr) (fun i _ => c.length - (intOf i).toNat)
      case atStart => exact ⟨0, Nat.zero_le _, rfl, hrc.out, Below.refl _ _⟩
      case round =>
        obtain ⟨j, hj, rfl, hd, hb⟩ := hrel
        have BQ := Lib.hid hb
        have HD := Lib.hid hd
        have G3 := Lib.hid (G0.out.below hb)
        have G4 := Lib.hid (K1.out.below hb)
        have k16 := G3.out.cell (sc_cloud (.slice A c.length cp) HF.out.len)
        have BW := Lib.hid (step_ BB.out hb)
        clear hb hd
        by_cases hlt : j < c.length
        · have hlt2 : j < e.length := HL.out ▸ hlt
          obtain ⟨G, p, hE, hc, hG⟩ := (H1.out.below BW.out).elem j hlt
          obtain ⟨G2, p2, hF, hc2, hG2⟩ := (H2.out.below BW.out).elem j hlt2
          obtain ⟨x, hx⟩ : ∃ z, c.getD j 0 = z := ⟨_, rfl⟩
          obtain ⟨y, hy⟩ : ∃ z, e.getD j 0 = z := ⟨_, rfl⟩
          rw [hx] at hc
          rw [hy] at hc2
          have E := Lib.hid hE
          have F := Lib.hid hF
          have C1 := Lib.hid hc
          have C2 := Lib.hid hc2
          have BL := Lib.hid hG
          have BL2 := Lib.hid hG2
          have HX := Lib.hid hx
          have HY := Lib.hid hy
          clear hE hF hc hc2 hG hG2 hx hy
          by_cases hxy : x = y
          · have hxy' : (x == y) = true := by simp [hxy]
            go_wp2_with fail
            have S1 := Lib.hid (show Below wr.heap.size wr wr.drew from below_drew (Below.refl _ _))
            clear k16
            refine wp_region_noPanic ?_
            refine wp_region_held_drew (S := fun W => Below wr.heap.size wr W) (by kernel_rfl) S1.out (fun _ => ?_)
            refine wpAnyH_take (i := 0) (oi := { dst := some 27, op := Go.Op.fieldAddr 33 (Go.Operand.tmp 2) 1, type := 0, pos := _, after := #[], guard := none }) (v := ?_) rfl (by kernel_rfl) (by kernel_rfl) (by kernel_rfl) (fun _ _ _ h => h) (Or.inl ⟨by rfl, ?_⟩) S1.out ?_
            rotate_left
            · intro W hW; (go_simp; try with_reducible rfl)
            try simp only [Act.put, List.setIfInBounds_toArray, List.set_cons_zero, List.set_cons_succ]
            refine wpAnyH_take (i := 1) (oi := { dst := some 28, op := Go.Op.load 27 (Go.Operand.tmp 27), type := 27, pos := _, after := #[{ on := 0, ground := Go.Ground.data }], guard := none }) (v := ?_) rfl (by kernel_rfl) (by kernel_rfl) (by kernel_rfl) (fun _ _ _ h => h) (Or.inl ⟨by rfl, ?_⟩) S1.out ?_
            rotate_left
            · intro W hW; have q16 := (G3.out.below hW).cell (sc_cloud (.slice A c.length cp) HF.out.len); (go_simp; try with_reducible rfl)
            try simp only [Act.put, List.setIfInBounds_toArray, List.set_cons_zero, List.set_cons_succ]
            refine wpAnyH_take (i := 2) (oi := { dst := some 29, op := Go.Op.move (Go.Operand.tmp 5), type := 3, pos := _, after := #[], guard := none }) (v := ?_) rfl (by kernel_rfl) (by kernel_rfl) (by kernel_rfl) (fun _ _ _ h => h) (Or.inl ⟨by rfl, ?_⟩) S1.out ?_
            rotate_left
            · intro W hW; (go_simp; try with_reducible rfl)
            try simp only [Act.put, List.setIfInBounds_toArray, List.set_cons_zero, List.set_cons_succ]
            refine wpAnyH_take (i := 3) (oi := { dst := some 30, op := Go.Op.indexAddr 27 (Go.Operand.tmp 28) (Go.Operand.tmp 29), type := 0, pos := _, after := #[{ on := 1, ground := Go.Ground.data }, { on := 2, ground := Go.Ground.data }], guard := none }) (v := .pointer (some ⟨G, p, none⟩)) rfl (by kernel_rfl) (by kernel_rfl) (by kernel_rfl) (fun _ _ _ h => h) (Or.inl ⟨by rfl, fun W hW => exec_indexN u24n (.tmp 28) (.tmp 29) rfl A _ _ G p j _ rfl rfl rfl E.out⟩) S1.out ?_
            try simp only [Act.put, List.setIfInBounds_toArray, List.set_cons_zero, List.set_cons_succ]
            refine wpAnyH_take (i := 4) (oi := { dst := some 31, op := Go.Op.load 40 (Go.Operand.tmp 30), type := 40, pos := _, after := #[{ on := 3, ground := Go.Ground.data }], guard := none }) (v := .int .u64 x) rfl (by kernel_rfl) (by kernel_rfl) (by kernel_rfl) (fun _ _ _ h => h) (Or.inl ⟨by rfl, fun W hW => exec_load_num (.tmp 30) rfl G p x rfl ((hW.cell (p := ⟨G, p, none⟩) BL.out).trans C1.out)⟩) S1.out ?_
            try simp only [Act.put, List.setIfInBounds_toArray, List.set_cons_zero, List.set_cons_succ]
            refine wpAnyH_take (i := 5) (oi := { dst := some 32, op := Go.Op.fieldAddr 33 (Go.Operand.tmp 3) 1, type := 0, pos := _, after := #[], guard := none }) (v := ?_) rfl (by kernel_rfl) (by kernel_rfl) (by kernel_rfl) (fun _ _ _ h => h) (Or.inl ⟨by rfl, ?_⟩) S1.out ?_
            rotate_left
            · intro W hW; (go_simp; try with_reducible rfl)
            try simp only [Act.put, List.setIfInBounds_toArray, List.set_cons_zero, List.set_cons_succ]
            refine wpAnyH_take (i := 6) (oi := { dst := some 33, op := Go.Op.load 27 (Go.Operand.tmp 32), type := 27, pos := _, after := #[{ on := 5, ground := Go.Ground.data }], guard := none }) (v := ?_) rfl (by kernel_rfl) (by kernel_rfl) (by kernel_rfl) (fun _ _ _ h => h) (Or.inl ⟨by rfl, ?_⟩) S1.out ?_
            rotate_left
            · intro W hW; have q16 := (G4.out.below hW).cell (sc_cloud (.slice A2 e.length cp2) HG.out.len); (go_simp; try with_reducible rfl)
            try simp only [Act.put, List.setIfInBounds_toArray, List.set_cons_zero, List.set_cons_succ]
            refine wpAnyH_take (i := 7) (oi := { dst := some 34, op := Go.Op.move (Go.Operand.tmp 5), type := 3, pos := _, after := #[], guard := none }) (v := ?_) rfl (by kernel_rfl) (by kernel_rfl) (by kernel_rfl) (fun _ _ _ h => h) (Or.inl ⟨by rfl, ?_⟩) S1.out ?_
            rotate_left
            · intro W hW; (go_simp; try with_reducible rfl)
            try simp only [Act.put, List.setIfInBounds_toArray, List.set_cons_zero, List.set_cons_succ]
            refine wpAnyH_take (i := 8) (oi := { dst := some 35, op := Go.Op.indexAddr 27 (Go.Operand.tmp 33) (Go.Operand.tmp 34), type := 0, pos := _, after := #[{ on := 6, ground := Go.Ground.data }, { on := 7, ground := Go.Ground.data }], guard := none }) (v := .pointer (some ⟨G2, p2, none⟩)) rfl (by kernel_rfl) (by kernel_rfl) (by kernel_rfl) (fun _ _ _ h => h) (Or.inl ⟨by rfl, fun W hW => exec_indexN u24n (.tmp 33) (.tmp 34) rfl A2 _ _ G2 p2 j _ rfl rfl rfl F.out⟩) S1.out ?_
            try simp only [Act.put, List.setIfInBounds_toArray, List.set_cons_zero, List.set_cons_succ]
            refine wpAnyH_take (i := 9) (oi := { dst := some 36, op := Go.Op.load 40 (Go.Operand.tmp 35), type := 40, pos := _, after := #[{ on := 8, ground := Go.Ground.data }], guard := none }) (v := .int .u64 y) rfl (by kernel_rfl) (by kernel_rfl) (by kernel_rfl) (fun _ _ _ h => h) (Or.inl ⟨by rfl, fun W hW => exec_load_num (.tmp 35) rfl G2 p2 y rfl ((hW.cell (p := ⟨G2, p2, none⟩) BL2.out).trans C2.out)⟩) S1.out ?_
            try simp only [Act.put, List.setIfInBounds_toArray, List.set_cons_zero, List.set_cons_succ]
            refine wpAnyH_take (i := 10) (oi := { dst := some 37, op := Go.Op.binOp Go.BinOp.neq 40 (Go.Operand.tmp 31) (Go.Operand.tmp 36) 40, type := 4, pos := _, after := #[{ on := 4, ground := Go.Ground.data }, { on := 9, ground := Go.Ground.data }], guard := none }) (v := ?_) rfl (by kernel_rfl) (by kernel_rfl) (by kernel_rfl) (fun _ _ _ h => h) (Or.inl ⟨by rfl, ?_⟩) S1.out ?_
            rotate_left
            · intro W hW; (go_simp; try with_reducible rfl)
            try simp only [Act.put, List.setIfInBounds_toArray, List.set_cons_zero, List.set_cons_succ]
            refine wpAnyH_done (by kernel_rfl) ?_ _
            refine NoPanic.normal ?_
            go_wp2_with fail
            go_roundw
            case rel =>
              refine ⟨j + 1, by omega, by go_num, ?_, BQ.out.trans (S1.out.mono BQ.out.size)⟩
              rw [← HD.out, Bool.eq_iff_iff, decide_eq_true_eq, decide_eq_true_eq, drop_eq hlt hlt2, HX.out, HY.out]
              simp [hxy]
            case measure => simp [intOf]; omega
          · have hxy' : (x == y) = false := by simp [hxy]
            obtain rfl : r = false := by rw [← HD.out, decide_eq_false_iff_not, drop_eq hlt hlt2, HX.out, HY.out]; exact fun e => hxy e.1
            go_wp2_with fail
            have S1 := Lib.hid (show Below wr.heap.size wr wr.drew from below_drew (Below.refl _ _))
            clear k16
            refine wp_region_noPanic ?_
            refine wp_region_held_drew (S := fun W => Below wr.heap.size wr W) (by kernel_rfl) S1.out (fun _ => ?_)
            refine wpAnyH_take (i := 0) (oi := { dst := some 27, op := Go.Op.fieldAddr 33 (Go.Operand.tmp 2) 1, type := 0, pos := _, after := #[], guard := none }) (v := ?_) rfl (by kernel_rfl) (by kernel_rfl) (by kernel_rfl) (fun _ _ _ h => h) (Or.inl ⟨by rfl, ?_⟩) S1.out ?_
            rotate_left
            · intro W hW; (go_simp; try with_reducible rfl)
            try simp only [Act.put, List.setIfInBounds_toArray, List.set_cons_zero, List.set_cons_succ]
            refine wpAnyH_take (i := 1) (oi := { dst := some 28, op := Go.Op.load 27 (Go.Operand.tmp 27), type := 27, pos := _, after := #[{ on := 0, ground := Go.Ground.data }], guard := none }) (v := ?_) rfl (by kernel_rfl) (by kernel_rfl) (by kernel_rfl) (fun _ _ _ h => h) (Or.inl ⟨by rfl, ?_⟩) S1.out ?_
            rotate_left
            · intro W hW; have q16 := (G3.out.below hW).cell (sc_cloud (.slice A c.length cp) HF.out.len); (go_simp; try with_reducible rfl)
            try simp only [Act.put, List.setIfInBounds_toArray, List.set_cons_zero, List.set_cons_succ]
            refine wpAnyH_take (i := 2) (oi := { dst := some 29, op := Go.Op.move (Go.Operand.tmp 5), type := 3, pos := _, after := #[], guard := none }) (v := ?_) rfl (by kernel_rfl) (by kernel_rfl) (by kernel_rfl) (fun _ _ _ h => h) (Or.inl ⟨by rfl, ?_⟩) S1.out ?_
            rotate_left
            · intro W hW; (go_simp; try with_reducible rfl)
            try simp only [Act.put, List.setIfInBounds_toArray, List.set_cons_zero, List.set_cons_succ]
            refine wpAnyH_take (i := 3) (oi := { dst := some 30, op := Go.Op.indexAddr 27 (Go.Operand.tmp 28) (Go.Operand.tmp 29), type := 0, pos := _, after := #[{ on := 1, ground := Go.Ground.data }, { on := 2, ground := Go.Ground.data }], guard := none }) (v := .pointer (some ⟨G, p, none⟩)) rfl (by kernel_rfl) (by kernel_rfl) (by kernel_rfl) (fun _ _ _ h => h) (Or.inl ⟨by rfl, fun W hW => exec_indexN u24n (.tmp 28) (.tmp 29) rfl A _ _ G p j _ rfl rfl rfl E.out⟩) S1.out ?_
            try simp only [Act.put, List.setIfInBounds_toArray, List.set_cons_zero, List.set_cons_succ]
            refine wpAnyH_take (i := 4) (oi := { dst := some 31, op := Go.Op.load 40 (Go.Operand.tmp 30), type := 40, pos := _, after := #[{ on := 3, ground := Go.Ground.data }], guard := none }) (v := .int .u64 x) rfl (by kernel_rfl) (by kernel_rfl) (by kernel_rfl) (fun _ _ _ h => h) (Or.inl ⟨by rfl, fun W hW => exec_load_num (.tmp 30) rfl G p x rfl ((hW.cell (p := ⟨G, p, none⟩) BL.out).trans C1.out)⟩) S1.out ?_
            try simp only [Act.put, List.setIfInBounds_toArray, List.set_cons_zero, List.set_cons_succ]
            refine wpAnyH_take (i := 5) (oi := { dst := some 32, op := Go.Op.fieldAddr 33 (Go.Operand.tmp 3) 1, type := 0, pos := _, after := #[], guard := none }) (v := ?_) rfl (by kernel_rfl) (by kernel_rfl) (by kernel_rfl) (fun _ _ _ h => h) (Or.inl ⟨by rfl, ?_⟩) S1.out ?_
            rotate_left
            · intro W hW; (go_simp; try with_reducible rfl)
            try simp only [Act.put, List.setIfInBounds_toArray, List.set_cons_zero, List.set_cons_succ]
            refine wpAnyH_take (i := 6) (oi := { dst := some 33, op := Go.Op.load 27 (Go.Operand.tmp 32), type := 27, pos := _, after := #[{ on := 5, ground := Go.Ground.data }], guard := none }) (v := ?_) rfl (by kernel_rfl) (by kernel_rfl) (by kernel_rfl) (fun _ _ _ h => h) (Or.inl ⟨by rfl, ?_⟩) S1.out ?_
            rotate_left
            · intro W hW; have q16 := (G4.out.below hW).cell (sc_cloud (.slice A2 e.length cp2) HG.out.len); (go_simp; try with_reducible rfl)
            try simp only [Act.put, List.setIfInBounds_toArray, List.set_cons_zero, List.set_cons_succ]
            refine wpAnyH_take (i := 7) (oi := { dst := some 34, op := Go.Op.move (Go.Operand.tmp 5), type := 3, pos := _, after := #[], guard := none }) (v := ?_) rfl (by kernel_rfl) (by kernel_rfl) (by kernel_rfl) (fun _ _ _ h => h) (Or.inl ⟨by rfl, ?_⟩) S1.out ?_
            rotate_left
            · intro W hW; (go_simp; try with_reducible rfl)
            try simp only [Act.put, List.setIfInBounds_toArray, List.set_cons_zero, List.set_cons_succ]
            refine wpAnyH_take (i := 8) (oi := { dst := some 35, op := Go.Op.indexAddr 27 (Go.Operand.tmp 33) (Go.Operand.tmp 34), type := 0, pos := _, after := #[{ on := 6, ground := Go.Ground.data }, { on := 7, ground := Go.Ground.data }], guard := none }) (v := .pointer (some ⟨G2, p2, none⟩)) rfl (by kernel_rfl) (by kernel_rfl) (by kernel_rfl) (fun _ _ _ h => h) (Or.inl ⟨by rfl, fun W hW => exec_indexN u24n (.tmp 33) (.tmp 34) rfl A2 _ _ G2 p2 j _ rfl rfl rfl F.out⟩) S1.out ?_
            try simp only [Act.put, List.setIfInBounds_toArray, List.set_cons_zero, List.set_cons_succ]
            refine wpAnyH_take (i := 9) (oi := { dst := some 36, op := Go.Op.load 40 (Go.Operand.tmp 35), type := 40, pos := _, after := #[{ on := 8, ground := Go.Ground.data }], guard := none }) (v := .int .u64 y) rfl (by kernel_rfl) (by kernel_rfl) (by kernel_rfl) (fun _ _ _ h => h) (Or.inl ⟨by rfl, fun W hW => exec_load_num (.tmp 35) rfl G2 p2 y rfl ((hW.cell (p := ⟨G2, p2, none⟩) BL2.out).trans C2.out)⟩) S1.out ?_
            try simp only [Act.put, List.setIfInBounds_toArray, List.set_cons_zero, List.set_cons_succ]
            refine wpAnyH_take (i := 10) (oi := { dst := some 37, op := Go.Op.binOp Go.BinOp.neq 40 (Go.Operand.tmp 31) (Go.Operand.tmp 36) 40, type := 4, pos := _, after := #[{ on := 4, ground := Go.Ground.data }, { on := 9, ground := Go.Ground.data }], guard := none }) (v := ?_) rfl (by kernel_rfl) (by kernel_rfl) (by kernel_rfl) (fun _ _ _ h => h) (Or.inl ⟨by rfl, ?_⟩) S1.out ?_
            rotate_left
            · intro W hW; (go_simp; try with_reducible rfl)
            try simp only [Act.put, List.setIfInBounds_toArray, List.set_cons_zero, List.set_cons_succ]
            refine wpAnyH_done (by kernel_rfl) ?_ _
            refine NoPanic.normal ?_
            go_wp2_with fail
            go_ret
            exact ⟨rfl, BW.out.trans (S1.out.mono BW.out.size)⟩
        · obtain rfl : j = c.length := by omega
          have hrt := HD.out
          rw [List.drop_length, HL.out, List.drop_length] at hrt
          obtain rfl : r = true := hrt.symm.trans (by simp)
          go_wp2_with fail
          go_ret
          exact ⟨rfl, BW.out⟩
    · have hbn : ((c.length : Int) == (e.length : Int)) = false := by simp; omega
      obtain rfl : r = false := by rw [← hr.out, decide_eq_false_iff_not]; intro e; exact hlen (by rw [e.2])
      clear hlen hfe
      go_enter Tryz.func6, Tryz.ntmps6
      go_wp2_with (first
        | go_skip
        | (have _ := G1.out; refine wpList_box_cs rfl _ rfl (sc g (.slice A2 e.length cp2)) rfl ?_; intro g1 w2 eg1 K1 b2; have G0 := Lib.hid (G1.out.below b2.out); have BB := Lib.hid (b1.out.trans (b2.out.mono b1.out.size)); have k16 := G0.out.cell (sc_cloud (.slice A c.length cp) HF.out.len); have k17 := K1.out.cell (sc_cloud (.slice A2 e.length cp2) HG.out.len))
        | (refine wpList_box_cs rfl _ rfl (sc f (.slice A c.length cp)) rfl ?_; intro g0 w1 eg0 G1 b1)
        | refine wpList_load_v t23 rfl _ rfl g0 0 f rfl (range_floor G0.out.range) HF.out.len ?_
        | refine wpList_load_v t23 rfl _ rfl g1 0 g rfl (range_floor K1.out.range) HG.out.len ?_
        | refine wpList_val rfl _ (exec_neq_vr t23 _ _ _ rfl f g rfl rfl HF.out.len HG.out.len hfg) ?_)
      go_ret
      exact ⟨rfl, BB.out⟩
  · have hfg : (!(f == g)) = true := by simp [hfe]
    obtain rfl : r = false := by rw [← hr.out, decide_eq_false_iff_not]; exact fun e => hfe e.1
    clear hfe
    go_enter Tryz.func6, Tryz.ntmps6
    go_wp2_with (first
      | go_skip
      | (have _ := G1.out; refine wpList_box_cs rfl _ rfl (sc g (.slice A2 e.length cp2)) rfl ?_; intro g1 w2 eg1 K1 b2; have G0 := Lib.hid (G1.out.below b2.out); have BB := Lib.hid (b1.out.trans (b2.out.mono b1.out.size)); have k16 := G0.out.cell (sc_cloud (.slice A c.length cp) HF.out.len); have k17 := K1.out.cell (sc_cloud (.slice A2 e.length cp2) HG.out.len))
      | (refine wpList_box_cs rfl _ rfl (sc f (.slice A c.length cp)) rfl ?_; intro g0 w1 eg0 G1 b1)
      | refine wpList_load_v t23 rfl _ rfl g0 0 f rfl (range_floor G0.out.range) HF.out.len ?_
      | refine wpList_load_v t23 rfl _ rfl g1 0 g rfl (range_floor K1.out.range) HG.out.len ?_
      | refine wpList_val rfl _ (exec_neq_vr t23 _ _ _ rfl f g rfl rfl HF.out.len HG.out.len hfg) ?_)
    go_ret
    exact ⟨rfl, BB.out⟩
theorem built_s26c (A : Option Addr) (n c : Nat) : Tryz.prog.built 33 [(1, .slice A n c)] = some (sc vz (.slice A n c)).toArray := by kernel_rfl
end Go.Proofs.YtpgafijeecmgmaaGreat
