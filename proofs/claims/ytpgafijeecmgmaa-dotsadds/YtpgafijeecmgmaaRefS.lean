/- The contract of the reference's settle. -/
import Derived.Test.YtpgafijeecmgmaaRefD
namespace Go.Proofs.Ytpgafijeecmgmaa
open Go.RowKit

/-- How many dots lie in the set's cloud. -/
def csize (w : World) (g : Nat) : Nat := match w.cell? ⟨g, 16, none⟩ with | some (.slice _ n _) => n | _ => 0
theorem csize_is {w : World} {g t : Nat} {f : List Int} {A : Option Addr} {n c : Nat} (h : Blk w g t (sc f (.slice A n c))) (hf : f.length = 16) : csize w g = n := by
  unfold csize; rw [h.cell (sc_cloud _ hf)]
set_option maxRecDepth 100000 in
set_option maxHeartbeats 4000000 in
theorem rsettle_is (f0 l0 f c : List Int) (A : Option Addr) (cp : Nat) (w : World) (hf0 : VOk f0) (hR : Rnd f0 l0 f c) (h1 : NumsAt w (.slice A c.length cp) c) (hn1 : c.length ≤ 5000) (p : List Int × List Int) (hp : Hid (nrm f0 l0 = p)) :
    Calls Try.prog 27 #[.agg (sc f (.slice A c.length cp)).toArray] w (GivesP w p) := by
  have H1 := Lib.hid h1
  have HR := Lib.hid hR
  have HF0 := Lib.hid hf0
  clear h1 hR hf0
  go_enter Try.func27, Try.ntmps27
  go_wp2_with (first
    | (refine wpList_box_cs rfl _ rfl (sc f (.slice A c.length cp)) rfl ?_; intro g1 w1 eg1 G1 b1)
    | (refine wpList_alloc_s t26 rfl rfl ?_; intro gr w2 egr R2 b2))
  have G2 := Lib.hid (G1.out.below b2.out)
  have B2 := Lib.hid (b1.out.trans (b2.out.mono b1.out.size))
  have hgr := Lib.hid (show w.heap.size ≤ gr by have := egr.out; have := b1.out.size; omega)
  have hg1 := Lib.hid (show w.heap.size ≤ g1 by have := eg1.out; omega)
  have hne := Lib.hid (show g1 ≠ gr by have := egr.out; have := G1.out.lt; omega)
  clear G1 b1 b2 egr eg1
  try simp only [Act.put, List.setIfInBounds_toArray, List.set_cons_zero, List.set_cons_succ]
  go_loopw [3, 4, 5, 6, 7] (fun _ _ _ _ _ wr => ∃ (f' c' : List Int) (A' : Option Addr) (cp' : Nat), Blk wr g1 26 (sc f' (.slice A' c'.length cp')) ∧ NumsAt wr (.slice A' c'.length cp') c' ∧ Rnd f0 l0 f' c' ∧ c'.length ≤ 5000 ∧ Blk wr gr 26 (sc vz (.slice none 0 0)) ∧ Below w.heap.size w wr) (fun _ _ _ _ _ wr => csize wr g1)
  case atStart => exact ⟨f, c, A, cp, G2.out, H1.out.below B2.out, HR.out, hn1, R2.out, B2.out⟩
  case round =>
    clear G2 R2 B2
    obtain ⟨f', c', A', cp', hg, hv, hr', hn', hrr, hb⟩ := hrel
    have G0 := Lib.hid hg
    have V0 := Lib.hid hv
    have RR := Lib.hid hr'
    have R0 := Lib.hid hrr
    have BB := Lib.hid hb
    have VF := Lib.hid hr'.inv.v
    have CS := Lib.hid (csize_is hg hr'.inv.v.len)
    clear hg hv hr' hrr hb
    go_wp2_with (first
      | refine wpList_load_v t23 rfl _ rfl g1 0 f' rfl (range_floor G0.out.range) VF.out.len ?_
      | (refine wpList_build rfl 26 _ rfl [(0, .agg (vc f').toArray)] rfl _ (built_s26o f' VF.out.len) ?_)
      | (refine wpList_alloc_s t26 rfl rfl ?_; intro go w4 ego S4 b4)
      | (refine wpList_store_s t26 rfl _ _ rfl go vz f' (.slice none 0 0) none 0 0 rfl rfl S4.out vz_len VF.out.len ?_; intro w5 S5 o5))
    have ego' := ego.out
    have W5 := Lib.hid (show Below wr.heap.size wr w5 from b4.out.trans (o5.out.below (by omega) b4.out.size))
    have hgo5 := Lib.hid (show go < w5.heap.size from S5.out.lt)
    have hgo := Lib.hid (show wr.heap.size ≤ go by omega)
    clear S4 b4 o5 ego ego'
    go_loopw [4, 5, 6, 7] (fun i _ _ _ wq => ∃ (j : Nat) (f2 o : List Int) (A2 : Option Addr) (c2 : Nat), j ≤ c'.length ∧ i = .int .i64 j ∧ Mid f0 l0 c' j f2 o ∧ Blk wq go 26 (sc f2 (.slice A2 o.length c2)) ∧ OwnN wq w5.heap.size (.slice A2 o.length c2) o ∧ Below wr.heap.size wr wq ∧ w5.heap.size ≤ wq.heap.size) (fun i _ _ _ _ => c'.length - (intOf i).toNat)
    case atStart => exact ⟨0, f', [], none, 0, Nat.zero_le _, rfl, RR.out.mid, S5.out, ownN_nil _ _, W5.out, Nat.le_refl _⟩
    case round =>
      clear S5 W5
      obtain ⟨j, f2, o, A2, c2, hj, rfl, hm, hs, ho, hb, hsz⟩ := hrel
      have M0 := Lib.hid hm
      have S0 := Lib.hid hs
      have O0 := Lib.hid ho
      have BQ := Lib.hid hb
      have V2 := Lib.hid hm.inv.v
      have hol : o.length ≤ 5000 := by have := hm.len; omega
      clear hm hs ho hb
      have G3 := Lib.hid (G0.out.below BQ.out)
      have c16 := G3.out.cell (sc_cloud (.slice A' c'.length cp') VF.out.len)
      by_cases hlt : j < c'.length
      · obtain ⟨G, pp, hE, hc, hG⟩ := (V0.out.below BQ.out).elem j hlt
        have E := Lib.hid hE
        obtain ⟨z, hz⟩ : ∃ z, c'.getD j 0 = z := ⟨_, rfl⟩
        have HZ := Lib.hid hz
        have HZR := Lib.hid (hz ▸ V0.out.nums.at_ j)
        have MA := M0.out.at hlt
        rw [hz] at hc MA
        have hm := may_iff.1 MA.1
        have hu := und_not.1 MA.2
        have hq : Int.tdiv z 4294967296 = z / 4294967296 := Int.tdiv_eq_ediv_of_nonneg hm.1
        have hmo : Int.tmod z 4294967296 = z % 4294967296 := Int.tmod_eq_emod_of_nonneg hm.1
        obtain ⟨k, hk⟩ : ∃ k : Nat, z / 4294967296 = (k : Int) := ⟨(z / 4294967296).toNat, by omega⟩
        obtain ⟨b, hbe⟩ : ∃ b, z % 4294967296 = b := ⟨_, rfl⟩
        have hk16 : k < 16 := by omega
        obtain ⟨y, hy⟩ : ∃ y, f2.getD k 0 = y := ⟨_, rfl⟩
        have hyr := V2.out.at k
        rw [hy] at hyr
        rw [hk, Int.toNat_natCast, hy, hbe] at hu
        have ca := S0.out.cell (sc_floor (.slice A2 o.length c2) V2.out.len k hk16)
        rw [hy] at ca
        have fr := S0.out.frozen k
        have e1 : IntKind.u64.wrap ((k : Int)) = (k : Int) := by rw [IntKind.wrap_u64]; omega
        have e2 : IntKind.u64.wrap b = b := by rw [IntKind.wrap_u64]; omega
        have e3 : IntKind.u64.wrap y = y := by rw [IntKind.wrap_u64]; omega
        have e4 : IntKind.u64.wrap (y + 1) = y + 1 := by rw [IntKind.wrap_u64]; omega
        have e5 : IntKind.u32.wrap b = b := by rw [IntKind.wrap_u32]; omega
        have hle : decide (b ≤ y) = false := decide_eq_false (by omega)
        have hnr : near f2 z = (b == y + 1) := by
          unfold near; rw [MA.2, Bool.false_or, hbe, hk, Int.toNat_natCast, hy, Bool.eq_iff_iff, decide_eq_true_eq, beq_iff_eq]; omega
        have HK := Lib.hid (show (z / 4294967296).toNat = k by omega)
        have HBE := Lib.hid hbe
        rw [hk] at hq
        rw [hbe] at hmo
        clear hE hz hm hu MA hk hbe hy hyr hG
        by_cases hby : b = y + 1
        · have hbq : (b == y + 1) = true := by simp [hby]
          have HN := Lib.hid (hnr.trans hbq)
          have O1 := Lib.hid (Only.set go k wr (.int .u32 b))
          have S1 := Lib.hid (show Blk (wr.setCell ⟨go, k, none⟩ (.int .u32 b)) go 26 (sc (f2.set k b) (.slice A2 o.length c2)) by rw [← sc_set _ V2.out.len k hk16]; exact S0.out.set k _)
          clear hnr hby
          go_wp2_with (first
            | refine wpList_indexN u24n rfl _ _ rfl _ _ _ G pp j _ rfl rfl rfl E.out ?_)
          go_roundw
          case rel =>
            refine ⟨j + 1, f2.set k b, o, A2, c2, by omega, by go_num, ?_, S1.out, O0.out.only O1.out (fun k hk e => O0.out.neT S0.out (by decide) (by rw [hk, e])), BQ.out.trans (O1.out.below hgo.out BQ.out.size), Nat.le_trans hsz O1.out.size⟩
            have := M0.out.join RR.out.srt hlt (by rw [HZ.out]; exact HN.out)
            rw [HZ.out, HK.out, HBE.out] at this
            exact this
          case measure => simp [intOf]; omega
        · have hbq : (b == y + 1) = false := by simp [hby]
          have HN := Lib.hid (hnr.trans hbq)
          have k16 := S0.out.cell (sc_cloud (.slice A2 o.length c2) V2.out.len)
          clear hnr hby
          go_wp2_with (first
            | refine wpList_indexN u24n rfl _ _ rfl _ _ _ G pp j _ rfl rfl rfl E.out ?_
            | (refine wpList_num1 u24n rfl _ rfl z rfl HZR.out ?_; intro gn w8 egn N8 b8; clear k16)
            | (refine wpList_app_n u24n rfl _ _ rfl w5.heap.size _ _ o [z] rfl rfl (O0.out.below b8.out) N8.out (by rw [List.length_singleton]; omega) (Nat.le_trans hsz b8.out.size) ?_; intro E9 k9 c9 w9 hk9 C9 b9 _; have S9 := Lib.hid ((S0.out.below b8.out).upto b9.out hgo5.out); have k16' := S9.out.cell (sc_cloud (.slice A2 o.length c2) V2.out.len); have f16 := S9.out.frozen 16))
          have O10 := Lib.hid (Only.set go 16 w9 (.slice E9 k9 c9))
          have S10 := Lib.hid (show Blk (w9.setCell ⟨go, 16, none⟩ (.slice E9 k9 c9)) go 26 (sc f2 (.slice E9 k9 c9)) by rw [← sc_put (.slice A2 o.length c2) _ V2.out.len]; exact S9.out.set 16 _)
          have C10 := Lib.hid (C9.out.only O10.out (fun k hk e => C9.out.neT S9.out (by decide) (by rw [hk, e])))
          have B9 := Lib.hid ((step_ BQ.out b8.out).trans (b9.out.mono (by have := hgo5.out; have := hgo.out; omega)))
          have B10 := Lib.hid (B9.out.trans (O10.out.below hgo.out B9.out.size))
          have z10 := Lib.hid (Nat.le_trans hsz (Nat.le_trans b8.out.size (Nat.le_trans b9.out.size O10.out.size)))
          go_roundw
          case rel =>
            have ek := hk9.out
            subst ek
            refine ⟨j + 1, f2, o ++ [z], E9, c9, by omega, by go_num, ?_, S10.out, C10.out, B10.out, z10.out⟩
            have := M0.out.far RR.out.srt hlt (by rw [HZ.out]; exact HN.out)
            rw [HZ.out] at this
            exact this
          case measure => simp [intOf]; omega
      · obtain rfl : j = c'.length := by omega
        have DN := Lib.hid (M0.out.done (Nat.le_refl _))
        have ML := M0.out.len
        have k16 := S0.out.cell (sc_cloud (.slice A2 o.length c2) V2.out.len)
        have R3 := Lib.hid (R0.out.below BQ.out)
        by_cases hlen : o.length = c'.length
        · have hle : ((o.length : Int) == (c'.length : Int)) = true := by simp [hlen]
          have en := DN.out.is_nrm HF0.out
          have HP := Lib.hid (show nrm f0 l0 = (f2, o) from Prod.ext en.1.symm en.2.symm)
          clear hlen en
          go_wp2_with (first
            | refine wpList_load_s t26 rfl _ rfl go f2 _ rfl S0.out V2.out.len ?_
            | (refine wpList_store_s t26 rfl _ _ rfl gr vz f2 _ A2 o.length c2 rfl rfl R3.out vz_len V2.out.len ?_; intro w6 R6 o6))
          refine bodyPost_ret (results_s t26 rfl _ _ gr f2 _ rfl R6.out V2.out.len) rfl ?_
          rw [← hp.out, HP.out]
          have x6 := BB.out.trans (BQ.out.mono BB.out.size)
          exact ⟨A2, c2, rfl, (O0.out.only o6.out (fun k hk e => O0.out.neT R3.out (by decide) (by rw [hk, e]))).at_, x6.trans (o6.out.below hgr.out x6.size)⟩
        · have hle : ((o.length : Int) == (c'.length : Int)) = false := by simp; omega
          have hlt2 : o.length < c'.length := by omega
          clear hlen
          go_wp2_with (first
            | refine wpList_load_s t26 rfl _ rfl go f2 _ rfl S0.out V2.out.len ?_
            | (refine wpList_store_s t26 rfl _ _ rfl g1 f' f2 _ A2 o.length c2 rfl rfl G3.out VF.out.len V2.out.len ?_; intro w6 G6 o6))
          have x6 := Lib.hid (BB.out.trans (BQ.out.mono BB.out.size))
          try simp only [Act.put, List.setIfInBounds_toArray, List.set_cons_zero, List.set_cons_succ]
          go_roundw
          case rel =>
            exact ⟨f2, o, A2, c2, G6.out, (O0.out.only o6.out (fun k hk e => O0.out.neT G3.out (by decide) (by rw [hk, e]))).at_, DN.out.again, by omega, R3.out.only o6.out hne.out.symm, x6.out.trans (o6.out.below hg1.out x6.out.size)⟩
          case measure =>
            rw [csize_is G6.out V2.out.len, CS.out]; exact hlt2
end Go.Proofs.Ytpgafijeecmgmaa
