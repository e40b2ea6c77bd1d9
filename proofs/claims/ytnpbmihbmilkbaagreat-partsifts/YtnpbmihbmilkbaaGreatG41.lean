/- slices.pdqsortOrdered and slices.Sort at uint16. Written by wip/tools/srtZ_r17.py. -/
import Derived.Test.YtnpbmihbmilkbaaGreatG01
import Derived.Test.YtnpbmihbmilkbaaGreatG35
import Derived.Test.YtnpbmihbmilkbaaGreatG37
import Derived.Test.YtnpbmihbmilkbaaGreatG38
import Derived.Test.YtnpbmihbmilkbaaGreatG39
import Derived.Test.YtnpbmihbmilkbaaGreatG40
import Derived.Deep.CutRange
import Derived.Deep.CutBlock
namespace Go.Proofs.YtnpbmihbmilkbaaGreat
open Go.RowKit
theorem exec_quo8 {o : Oper} {a : Act} {w : World} (x : Operand) (ho : o.op = .binOp .quo 3 x (.const (.int .i64 8)) 3) (p r : Nat) (hx : a.eval x = .int .i64 (p : Int)) (hr : r = p / 8) (hb : p ≤ 100000) :
    (execOp a.eval o).run Tryz.prog w = .ok (.value (.int .i64 (r : Int))) w := by
  have h : (p : Int) / 8 = (r : Int) := by omega
  have H := Lib.hid h
  clear h hr
  unfold execOp
  simp only [ho, hx]
  go_simp
  rw [H.out]
  exact wrap_small (by have := H.out; omega) (by have := H.out; omega)
set_option maxRecDepth 100000 in
set_option maxHeartbeats 32000000 in
theorem pdq_all : ∀ (d B g n cap a b lim : Nat) (l : List Int) (w : World), b - a ≤ d → OwnN w B (.slice (some ⟨g, 0, none⟩) n cap) l → b ≤ n → n ≤ 10000 → a ≤ b → lim ≤ 64 → Prd l a b → g < w.heap.size →
    Calls Tryz.prog 54 #[(.slice (some ⟨g, 0, none⟩) n cap), .int .i64 (a : Int), .int .i64 (b : Int), .int .i64 (lim : Int)] w (GivesS B g n cap a b l w fun m => Sd m a b) := by
  intro d
  induction d using Nat.strongRecOn with
  | _ d ih =>
  intro B g n cap a b lim l w hd h hb hn hab hlim hpr hg
  have IH := Lib.hid ih
  have H := Lib.hid h
  have HP := Lib.hid hpr
  have LB := Lib.hid (show b ≤ l.length by have := h.len; omega)
  have HD := Lib.hid hd
  clear ih h hpr hd
  go_enter Tryz.func54, Tryz.ntmps54
  go_wp2_with fail
  go_loopw [1, 2, 3, 8, 9] (fun s1 s2 s3 s8 s9 wr => ∃ (a' b' lm : Nat) (x y : Bool) (m : List Int), s1 = .int .i64 (a' : Int) ∧ s2 = .int .i64 (b' : Int) ∧ s3 = .int .i64 (lm : Int) ∧ s8 = .bool x ∧ s9 = .bool y ∧ (a ≤ a' ∧ a' ≤ b' ∧ b' ≤ b) ∧ lm ≤ 64 ∧ OwnN wr B (.slice (some ⟨g, 0, none⟩) n cap) m ∧ Per a b l m ∧ OutS m a b a' b' ∧ Prd m a' b' ∧ Only g w wr) (fun s1 s2 _ _ _ _ => (intOf s2 - intOf s1).toNat)
  case atStart => exact ⟨a, b, lim, true, true, l, rfl, rfl, rfl, rfl, rfl, by omega, hlim, H.out, .refl l, out_start l a b, HP.out, Only.refl g w⟩
  case round =>
    obtain ⟨a', b', lm, x, y, m, rfl, rfl, rfl, rfl, rfl, hr, hlm, hm, hp, hou, hpd, ho⟩ := hrel
    have D := Lib.hid hm
    have PM := Lib.hid hp
    have OU := Lib.hid hou
    have PR := Lib.hid hpd
    have O := Lib.hid ho
    have ML := Lib.hid hm.len
    have GB := Lib.hid (show g < wr.heap.size from Nat.lt_of_lt_of_le hg ho.size)
    obtain ⟨L, hL⟩ : ∃ z, z = b' - a' := ⟨_, rfl⟩
    have HL := Lib.hid hL
    have hLb : L ≤ 10000 ∧ a' + L ≤ b' ∧ b' ≤ a' + L := by omega
    clear hm hp hou hpd ho hL
    by_cases h12 : L ≤ 12
    · have hg1 : decide ((L : Int) ≤ 12) = true := decide_eq_true (by omega)
      go_wp2_with (first | (refine wpList_val rfl _ (exec_subn _ _ rfl (b' : Int) (a' : Int) (L : Int) rfl rfl (by have := HL.out; omega) (by omega)) ?_) | (refine wpList_val rfl _ (exec_le _ _ rfl (L : Int) 12 true rfl rfl hg1) ?_))
      refine (insertion_is B g n cap a' b' m _ D.out (by omega) hn (by omega)).mono ?_
      rintro e w3 ⟨rfl, o3, m3, d3, p3, s3⟩
      have D3 := Lib.hid d3
      have O3 := Lib.hid (O.out.trans o3)
      have P3 := Lib.hid (PM.out.trans (p3.mono hr.1 hr.2.2 (by have := ML.out; have := LB.out; omega)))
      have S3 := Lib.hid ((OU.out.per hr.1 hr.2.2 p3).sd s3)
      clear d3 o3 p3 s3
      go_wp2_with fail
      refine bodyPost_ret (results_none rfl _ _ _) rfl ?_
      exact ⟨rfl, O3.out, m3, D3.out, P3.out, S3.out⟩
    · have hg1 : decide ((L : Int) ≤ 12) = false := decide_eq_false (by omega)
      by_cases hl0 : lm = 0
      · subst hl0
        go_wp2_with (first | (refine wpList_val rfl _ (exec_subn _ _ rfl (b' : Int) (a' : Int) (L : Int) rfl rfl (by have := HL.out; omega) (by omega)) ?_) | (refine wpList_val rfl _ (exec_le _ _ rfl (L : Int) 12 false rfl rfl hg1) ?_))
        refine (heap_is B g n cap a' b' m _ D.out (by omega) hn (by omega)).mono ?_
        rintro e w3 ⟨rfl, o3, m3, d3, p3, s3⟩
        have D3 := Lib.hid d3
        have O3 := Lib.hid (O.out.trans o3)
        have P3 := Lib.hid (PM.out.trans (p3.mono hr.1 hr.2.2 (by have := ML.out; have := LB.out; omega)))
        have S3 := Lib.hid ((OU.out.per hr.1 hr.2.2 p3).sd s3)
        clear d3 o3 p3 s3
        go_wp2_with fail
        refine bodyPost_ret (results_none rfl _ _ _) rfl ?_
        exact ⟨rfl, O3.out, m3, D3.out, P3.out, S3.out⟩
      · have hgl : ((lm : Int) == 0) = false := beq_eq_false_iff_ne.2 (by omega)
        go_upto_if 35 with (first | (refine wpList_val rfl _ (exec_subn _ _ rfl (b' : Int) (a' : Int) (L : Int) rfl rfl (by have := HL.out; omega) (by omega)) ?_) | (refine wpList_val rfl _ (exec_le _ _ rfl (L : Int) 12 false rfl rfl hg1) ?_))
        try simp only [Act.put, stA, stZ, stS]
        clear hg1 hgl
        go_cut [3] from 19 to 133 (fun s3 wc => ∃ (lm : Nat) (m2 : List Int), s3 = .int .i64 (lm : Int) ∧ lm ≤ 64 ∧ OwnN wc B (.slice (some ⟨g, 0, none⟩) n cap) m2 ∧ Per a' b' m m2 ∧ Only g w wc)
        case first =>
          cases x with
          | true =>
            go_wp2_with go_skip
            go_meet
            case rel => exact ⟨lm, m, rfl, hlm, D.out, .refl m, O.out⟩
          | false =>
            go_wp2_with go_skip
            refine (break_is B g n cap a' b' m _ D.out (by omega) hn (by omega) GB.out).mono ?_
            rintro e w3 ⟨rfl, o3, m3, d3, p3, -⟩
            have D3 := Lib.hid d3
            have O3 := Lib.hid (O.out.trans o3)
            have P3 := Lib.hid p3
            clear d3 o3 p3
            go_wp2_with (refine wpList_val rfl _ (exec_subn _ _ rfl (lm : Int) 1 ((lm - 1 : Nat) : Int) rfl rfl (by omega) (by omega)) ?_)
            go_meet
            case rel => exact ⟨lm - 1, m3, rfl, by omega, D3.out, P3.out, O3.out⟩
        case rest =>
          obtain ⟨lm2, m2, rfl, hlm2, hm, hp, ho⟩ := hcut
          clear D O
          have D := Lib.hid hm
          have PP := Lib.hid (PM.out.trans (hp.mono hr.1 hr.2.2 (by have := ML.out; have := LB.out; omega)))
          have ZO := Lib.hid (OU.out.per hr.1 hr.2.2 hp)
          have ZP := Lib.hid (PR.out.per hp)
          have ML2 := Lib.hid hm.len
          have O := Lib.hid ho
          clear hm hp ho OU PR PM ML
          have OU := ZO
          have PR := ZP
          have PM := PP
          have ML := ML2
          clear ZO ZP PP ML2
          clear hl0 hlm
          obtain ⟨m, em⟩ : ∃ z, z = m2 := ⟨_, rfl⟩
          rw [← em] at D OU PR PM ML
          clear em
          have GB := Lib.hid (show g < wc.heap.size from Nat.lt_of_lt_of_le hg O.out.size)
          go_wp2_with fail
          refine (choose_is B g n cap a' b' m _ D.out (by omega) hn (by omega) GB.out).mono ?_
          rintro e w4 ⟨⟨p, hv, rfl, hp1⟩, d4, b4⟩
          have D4 := Lib.hid d4
          have O4 := Lib.hid (O.out.trans ⟨b4.os, b4.tape, b4.output, b4.size, fun k hk _ => b4.block k hk⟩)
          clear d4 b4 D O
          go_upto_if 50 with fail
          try simp only [Act.put, stA, stZ, stS]
          go_cut [11, 12] from 19 to 133 (fun s11 s12 wc => ∃ (p : Nat) (hv : Int) (m2 : List Int), s11 = .int .i64 (p : Int) ∧ s12 = .int .i64 hv ∧ (a' ≤ p ∧ p < b') ∧ OwnN wc B (.slice (some ⟨g, 0, none⟩) n cap) m2 ∧ Per a' b' m m2 ∧ Only g w wc)
          case first =>
            by_cases hv2 : hv = 2
            · subst hv2
              go_wp2_with fail
              refine (reverse_is B g n cap a' b' m _ D4.out (by omega) hn (by omega)).mono ?_
              rintro e w5 ⟨rfl, o5, m5, d5, p5, -⟩
              have D5 := Lib.hid d5
              have O5 := Lib.hid (O4.out.trans o5)
              have P5 := Lib.hid p5
              clear d5 o5 p5
              go_wp2_with (first
                | (refine wpList_val rfl _ (exec_subn _ _ rfl (b' : Int) 1 ((b' - 1 : Nat) : Int) rfl rfl (by omega) (by omega)) ?_)
                | (refine wpList_val rfl _ (exec_subn _ _ rfl (p : Int) (a' : Int) ((p - a' : Nat) : Int) rfl rfl (by omega) (by omega)) ?_)
                | (refine wpList_val rfl _ (exec_subn _ _ rfl ((b' - 1 : Nat) : Int) ((p - a' : Nat) : Int) ((b' - 1 - (p - a') : Nat) : Int) rfl rfl (by omega) (by omega)) ?_))
              go_meet
              case rel => exact ⟨b' - 1 - (p - a'), 1, m5, rfl, rfl, by omega, D5.out, P5.out, O5.out⟩
            · have hvb : (hv == 2) = false := beq_eq_false_iff_ne.2 hv2
              go_wp2_with fail
              go_meet
              case rel => exact ⟨p, hv, m, rfl, rfl, hp1, D4.out, .refl m, O4.out⟩
          case rest =>
            obtain ⟨p, hv, m2, rfl, rfl, hp1, hm, hp, ho⟩ := hcut
            clear D4 O4
            have D := Lib.hid hm
            have PP := Lib.hid (PM.out.trans (hp.mono hr.1 hr.2.2 (by have := ML.out; have := LB.out; omega)))
            have ZO := Lib.hid (OU.out.per hr.1 hr.2.2 hp)
            have ZP := Lib.hid (PR.out.per hp)
            have ML2 := Lib.hid hm.len
            have O := Lib.hid ho
            clear hm hp ho OU PR PM ML
            have OU := ZO
            have PR := ZP
            have PM := PP
            have ML := ML2
            clear ZO ZP PP ML2
            obtain ⟨m, em⟩ : ∃ z, z = m2 := ⟨_, rfl⟩
            rw [← em] at D OU PR PM ML
            clear em
            obtain ⟨bb, hbb⟩ : ∃ z, (x && (y && decide (hv = 1))) = z := ⟨_, rfl⟩
            have HBB := Lib.hid hbb
            clear hbb
            go_upto_region 15 with fail
            try simp only [Act.put, stA, stZ, stS]
            go_cut [68] from 19 to 67 (fun s68 wc => s68 = .bool bb ∧ OwnN wc B (.slice (some ⟨g, 0, none⟩) n cap) m ∧ Only g w wc)
            case first =>
              cases x with
              | false =>
                obtain rfl : false = bb := HBB.out
                go_wp2_with go_skip
                go_meet
                case rel => exact ⟨rfl, D.out, O.out⟩
              | true =>
                cases y with
                | false =>
                  obtain rfl : false = bb := HBB.out
                  go_wp2_with go_skip
                  go_meet
                  case rel => exact ⟨rfl, D.out, O.out⟩
                | true =>
                  by_cases h1 : hv = 1
                  · subst h1
                    obtain rfl : true = bb := HBB.out
                    go_wp2_with go_skip
                    go_meet
                    case rel => exact ⟨rfl, D.out, O.out⟩
                  · have hvb : (hv == 1) = false := beq_eq_false_iff_ne.2 h1
                    obtain rfl : false = bb := by rw [← HBB.out, decide_eq_false h1]; rfl
                    go_wp2_with go_skip
                    go_meet
                    case rel => exact ⟨rfl, D.out, O.out⟩
            case rest =>
              obtain ⟨rfl, hm, ho⟩ := hcut
              clear D O
              have D := Lib.hid hm
              have O := Lib.hid ho
              clear hm ho
              go_upto_if 68 with fail
              try simp only [Act.put, stA, stZ, stS]
              go_cut [] from 19 to 133 (fun wc => ∃ m2 : List Int, OwnN wc B (.slice (some ⟨g, 0, none⟩) n cap) m2 ∧ Per a' b' m m2 ∧ Only g w wc)
              case first =>
                cases bb with
                | false =>
                  go_wp2_with fail
                  go_meet
                  case rel => exact ⟨m, D.out, .refl m, O.out⟩
                | true =>
                  go_wp2_with fail
                  refine (partins_is B g n cap a' b' m _ D.out (by omega) hn (by omega) PR.out).mono ?_
                  rintro e w5 ⟨t5, m5, rfl, d5, p5, s5, o5⟩
                  have D5 := Lib.hid d5
                  have O5 := Lib.hid (O.out.trans o5)
                  have P5 := Lib.hid p5
                  have S5 := Lib.hid s5
                  clear d5 o5 p5 s5
                  cases t5 with
                  | true =>
                    have P6 := Lib.hid (PM.out.trans (P5.out.mono hr.1 hr.2.2 (by have := ML.out; have := LB.out; omega)))
                    have S6 := Lib.hid ((OU.out.per hr.1 hr.2.2 P5.out).sd (S5.out rfl))
                    go_wp2_with fail
                    refine bodyPost_ret (results_none rfl _ _ _) rfl ?_
                    exact ⟨rfl, O5.out, m5, D5.out, P6.out, S6.out⟩
                  | false =>
                    go_wp2_with fail
                    go_meet
                    case rel => exact ⟨m5, D5.out, P5.out, O5.out⟩
              case rest =>
                obtain ⟨m2, hm, hp, ho⟩ := hcut
                clear D O
                have D := Lib.hid hm
                have PP := Lib.hid (PM.out.trans (hp.mono hr.1 hr.2.2 (by have := ML.out; have := LB.out; omega)))
                have ZO := Lib.hid (OU.out.per hr.1 hr.2.2 hp)
                have ZP := Lib.hid (PR.out.per hp)
                have ML2 := Lib.hid hm.len
                have O := Lib.hid ho
                clear hm hp ho OU PR PM ML
                have OU := ZO
                have PR := ZP
                have PM := PP
                have ML := ML2
                clear ZO ZP PP ML2
                obtain ⟨m, em⟩ : ∃ z, z = m2 := ⟨_, rfl⟩
                rw [← em] at D OU PR PM ML
                clear em HBB
                obtain ⟨bq, hbq⟩ : ∃ z, (decide (0 < a') && !decide (m.getD (a' - 1) 0 < m.getD p 0)) = z := ⟨_, rfl⟩
                have HBQ := Lib.hid hbq
                clear hbq
                go_upto_region 17 with fail
                try simp only [Act.put, stA, stZ, stS]
                go_cut [87] from 19 to 86 (fun s87 wc => s87 = .bool bq ∧ OwnN wc B (.slice (some ⟨g, 0, none⟩) n cap) m ∧ Only g w wc)
                case first =>
                  have S0 := Lib.hid (show Below wc.heap.size wc wc.drew from below_drew (Below.refl _ _))
                  have DD := Lib.hid (D.out.below S0.out)
                  have OD := Lib.hid (O.out.trans (only_drew g wc))
                  by_cases ha0 : 0 < a'
                  · have hg3 : decide ((0 : Int) < (a' : Int)) = true := decide_eq_true (by omega)
                    by_cases hc : m.getD (a' - 1) 0 < m.getD p 0
                    · have HC := Lib.hid (decide_eq_true hc)
                      obtain rfl : false = bq := by rw [← HBQ.out, decide_eq_true hc]; simp
                      go_wp2_with fail
                      refine wp_region_noPanic ?_
                      refine wp_region_held_drew (S := fun W => Below wc.heap.size wc W) (by kernel_rfl) S0.out (fun _ => ?_)
                      refine tkm 0 rfl S0.out ?_; try simp only [Act.put, stA, stZ, stS]
                      refine tkv 1 (.bool true) rfl (fun W hW => exec_gt (.tmp 73) (.const (.int .i64 0)) rfl (a' : Int) 0 true rfl rfl (by first | assumption | exact decide_eq_true (by omega) | exact decide_eq_false (by omega))) S0.out ?_; try simp only [Act.put, stA, stZ, stS]
                      refine tkm 2 rfl S0.out ?_; try simp only [Act.put, stA, stZ, stS]
                      refine tkm 3 rfl S0.out ?_; try simp only [Act.put, stA, stZ, stS]
                      refine tkm 4 rfl S0.out ?_; try simp only [Act.put, stA, stZ, stS]
                      refine tkv 5 (.int .i64 ((a' - 1 : Nat) : Int)) rfl (fun W hW => exec_subn (.tmp 77) (.const (.int .i64 1)) rfl (a' : Int) 1 ((a' - 1 : Nat) : Int) rfl rfl (by omega) (by omega)) S0.out ?_; try simp only [Act.put, stA, stZ, stS]
                      refine tkv 6 (.pointer (some ⟨g, (a' - 1), none⟩)) rfl (fun W hW => exec_ixg Tryz.underlying24 (.tmp 76) (.tmp 78) rfl g n cap (a' - 1) ((a' - 1 : Nat) : Int) rfl rfl (by omega) (by omega)) S0.out ?_; try simp only [Act.put, stA, stZ, stS]
                      refine tkv 7 (.int .u64 (m.getD (a' - 1) 0)) rfl (fun W hW => exec_load_num (.tmp 79) rfl g (a' - 1) (m.getD (a' - 1) 0) rfl (OwnN.cell (D.out.below hW) (by have := D.out.len; omega))) S0.out ?_; try simp only [Act.put, stA, stZ, stS]
                      refine tkm 8 rfl S0.out ?_; try simp only [Act.put, stA, stZ, stS]
                      refine tkm 9 rfl S0.out ?_; try simp only [Act.put, stA, stZ, stS]
                      refine tkv 10 (.pointer (some ⟨g, p, none⟩)) rfl (fun W hW => exec_ixg Tryz.underlying24 (.tmp 81) (.tmp 82) rfl g n cap p (p : Int) rfl rfl (by omega) (by omega)) S0.out ?_; try simp only [Act.put, stA, stZ, stS]
                      refine tkv 11 (.int .u64 (m.getD p 0)) rfl (fun W hW => exec_load_num (.tmp 83) rfl g p (m.getD p 0) rfl (OwnN.cell (D.out.below hW) (by have := D.out.len; omega))) S0.out ?_; try simp only [Act.put, stA, stZ, stS]
                      refine rdy [12] ?_
                      refine AllReadyH.cons (arR rfl) (fun K hK => ?_) AllReadyH.nil
                      go_simp
                      refine (less16_is _ _ true _ (Lib.hid (HC.out))).mono ?_
                      rintro e wl ⟨rfl, rfl⟩
                      go_wp2_with fail
                      refine hK.out _ _ S0.out (fun _ => ?_)
                      clear hK K
                      try simp only [Act.put, stA, stZ, stS]
                      refine tkm 13 rfl S0.out ?_; try simp only [Act.put, stA, stZ, stS]
                      refine tkm 14 rfl S0.out ?_; try simp only [Act.put, stA, stZ, stS]
                      refine wpAnyH_done (by kernel_rfl) ?_ _
                      refine NoPanic.normal ?_
                      go_wp2_with fail
                      go_meet
                      case rel => exact ⟨rfl, DD.out, OD.out⟩
                    · have HC := Lib.hid (decide_eq_false hc)
                      obtain rfl : true = bq := by rw [← HBQ.out, decide_eq_false hc, decide_eq_true ha0]; rfl
                      go_wp2_with fail
                      refine wp_region_noPanic ?_
                      refine wp_region_held_drew (S := fun W => Below wc.heap.size wc W) (by kernel_rfl) S0.out (fun _ => ?_)
                      refine tkm 0 rfl S0.out ?_; try simp only [Act.put, stA, stZ, stS]
                      refine tkv 1 (.bool true) rfl (fun W hW => exec_gt (.tmp 73) (.const (.int .i64 0)) rfl (a' : Int) 0 true rfl rfl (by first | assumption | exact decide_eq_true (by omega) | exact decide_eq_false (by omega))) S0.out ?_; try simp only [Act.put, stA, stZ, stS]
                      refine tkm 2 rfl S0.out ?_; try simp only [Act.put, stA, stZ, stS]
                      refine tkm 3 rfl S0.out ?_; try simp only [Act.put, stA, stZ, stS]
                      refine tkm 4 rfl S0.out ?_; try simp only [Act.put, stA, stZ, stS]
                      refine tkv 5 (.int .i64 ((a' - 1 : Nat) : Int)) rfl (fun W hW => exec_subn (.tmp 77) (.const (.int .i64 1)) rfl (a' : Int) 1 ((a' - 1 : Nat) : Int) rfl rfl (by omega) (by omega)) S0.out ?_; try simp only [Act.put, stA, stZ, stS]
                      refine tkv 6 (.pointer (some ⟨g, (a' - 1), none⟩)) rfl (fun W hW => exec_ixg Tryz.underlying24 (.tmp 76) (.tmp 78) rfl g n cap (a' - 1) ((a' - 1 : Nat) : Int) rfl rfl (by omega) (by omega)) S0.out ?_; try simp only [Act.put, stA, stZ, stS]
                      refine tkv 7 (.int .u64 (m.getD (a' - 1) 0)) rfl (fun W hW => exec_load_num (.tmp 79) rfl g (a' - 1) (m.getD (a' - 1) 0) rfl (OwnN.cell (D.out.below hW) (by have := D.out.len; omega))) S0.out ?_; try simp only [Act.put, stA, stZ, stS]
                      refine tkm 8 rfl S0.out ?_; try simp only [Act.put, stA, stZ, stS]
                      refine tkm 9 rfl S0.out ?_; try simp only [Act.put, stA, stZ, stS]
                      refine tkv 10 (.pointer (some ⟨g, p, none⟩)) rfl (fun W hW => exec_ixg Tryz.underlying24 (.tmp 81) (.tmp 82) rfl g n cap p (p : Int) rfl rfl (by omega) (by omega)) S0.out ?_; try simp only [Act.put, stA, stZ, stS]
                      refine tkv 11 (.int .u64 (m.getD p 0)) rfl (fun W hW => exec_load_num (.tmp 83) rfl g p (m.getD p 0) rfl (OwnN.cell (D.out.below hW) (by have := D.out.len; omega))) S0.out ?_; try simp only [Act.put, stA, stZ, stS]
                      refine rdy [12] ?_
                      refine AllReadyH.cons (arR rfl) (fun K hK => ?_) AllReadyH.nil
                      go_simp
                      refine (less16_is _ _ false _ (Lib.hid (HC.out))).mono ?_
                      rintro e wl ⟨rfl, rfl⟩
                      go_wp2_with fail
                      refine hK.out _ _ S0.out (fun _ => ?_)
                      clear hK K
                      try simp only [Act.put, stA, stZ, stS]
                      refine tkm 13 rfl S0.out ?_; try simp only [Act.put, stA, stZ, stS]
                      refine tkm 14 rfl S0.out ?_; try simp only [Act.put, stA, stZ, stS]
                      refine wpAnyH_done (by kernel_rfl) ?_ _
                      refine NoPanic.normal ?_
                      go_wp2_with fail
                      go_meet
                      case rel => exact ⟨rfl, DD.out, OD.out⟩
                  · have hg3 : decide ((0 : Int) < (a' : Int)) = false := decide_eq_false (by omega)
                    obtain rfl : false = bq := by rw [← HBQ.out, decide_eq_false ha0]; rfl
                    go_wp2_with fail
                    refine wp_region_noPanic ?_
                    refine wp_region_held_drew (S := fun W => Below wc.heap.size wc W) (by kernel_rfl) S0.out (fun _ => ?_)
                    refine tkm 0 rfl S0.out ?_; try simp only [Act.put, stA, stZ, stS]
                    refine tkv 1 (.bool false) rfl (fun W hW => exec_gt (.tmp 73) (.const (.int .i64 0)) rfl (a' : Int) 0 false rfl rfl (by first | assumption | exact decide_eq_true (by omega) | exact decide_eq_false (by omega))) S0.out ?_; try simp only [Act.put, stA, stZ, stS]
                    refine tkm 2 rfl S0.out ?_; try simp only [Act.put, stA, stZ, stS]
                    refine tks 3 rfl S0.out ?_; try simp only [Act.put, stA, stZ, stS]
                    refine tks 4 rfl S0.out ?_; try simp only [Act.put, stA, stZ, stS]
                    refine tks 5 rfl S0.out ?_; try simp only [Act.put, stA, stZ, stS]
                    refine tks 6 rfl S0.out ?_; try simp only [Act.put, stA, stZ, stS]
                    refine tks 7 rfl S0.out ?_; try simp only [Act.put, stA, stZ, stS]
                    refine tks 8 rfl S0.out ?_; try simp only [Act.put, stA, stZ, stS]
                    refine tks 9 rfl S0.out ?_; try simp only [Act.put, stA, stZ, stS]
                    refine tks 10 rfl S0.out ?_; try simp only [Act.put, stA, stZ, stS]
                    refine tks 11 rfl S0.out ?_; try simp only [Act.put, stA, stZ, stS]
                    refine tks 12 rfl S0.out ?_; try simp only [Act.put, stA, stZ, stS]
                    refine tks 13 rfl S0.out ?_; try simp only [Act.put, stA, stZ, stS]
                    refine tkm 14 rfl S0.out ?_; try simp only [Act.put, stA, stZ, stS]
                    refine wpAnyH_done (by kernel_rfl) ?_ _
                    refine NoPanic.normal ?_
                    go_wp2_with fail
                    go_meet
                    case rel => exact ⟨rfl, DD.out, OD.out⟩
                case rest =>
                  obtain ⟨rfl, hm, ho⟩ := hcut
                  clear D O
                  have D := Lib.hid hm
                  have O := Lib.hid ho
                  clear hm ho
                  cases bq with
                  | true =>
                    have HQ : 0 < a' ∧ ¬ m.getD (a' - 1) 0 < m.getD p 0 := by
                      have := HBQ.out
                      simp only [Bool.and_eq_true, decide_eq_true_eq, Bool.not_eq_true', decide_eq_false_iff_not] at this
                      exact this
                    have HQ := Lib.hid HQ
                    go_wp2_with fail
                    refine (parteq_is B g n cap a' b' p m _ D.out (by omega) hn hp1).mono ?_
                    rintro e w5 ⟨k5, m5, rfl, d5, p5, hk5, le5, gt5, o5⟩
                    have D5 := Lib.hid d5
                    have O5 := Lib.hid (O.out.trans o5)
                    have P5 := Lib.hid (PM.out.trans (p5.mono hr.1 hr.2.2 (by have := ML.out; have := LB.out; omega)))
                    have U5 := Lib.hid (out_equal (p := p) OU.out hr.1 hr.2.2 p5 PR.out HQ.out.1 (by have := HQ.out.2; omega) le5 gt5)
                    have R5 := Lib.hid (prd_equal hk5.1 le5 gt5)
                    clear d5 o5 p5 le5 gt5 HBQ
                    go_wp2_with fail
                    go_roundw
                    case rel => exact ⟨k5, b', lm2, x, y, m5, rfl, rfl, rfl, rfl, rfl, by omega, hlm2, D5.out, P5.out, U5.out, R5.out, O5.out⟩
                    case measure => simp [intOf]; omega
                  | false =>
                    clear HBQ
                    go_wp2_with fail
                    refine (part_is B g n cap a' b' p m _ D.out (by omega) hn hp1).mono ?_
                    rintro e w5 ⟨c, t5, m5, rfl, d5, p5, hc5, pr5, o5⟩
                    have D5 := Lib.hid d5
                    have O5 := Lib.hid (O.out.trans o5)
                    have P5 := Lib.hid (PM.out.trans (p5.mono hr.1 hr.2.2 (by have := ML.out; have := LB.out; omega)))
                    have U5 := Lib.hid (OU.out.per hr.1 hr.2.2 p5)
                    have R5 := Lib.hid (PR.out.per p5)
                    have T5 := Lib.hid pr5
                    have ML5 := Lib.hid d5.len
                    have GB5 := Lib.hid (show g < w5.heap.size from Nat.lt_of_lt_of_le hg O5.out.size)
                    clear d5 o5 p5 pr5
                    obtain ⟨q8, hq8⟩ : ∃ z, z = L / 8 := ⟨_, rfl⟩
                    have Q8 := Lib.hid hq8
                    have hq8b : q8 ≤ 10000 := by omega
                    clear hq8
                    by_cases hlr : c - a' < b' - c
                    · obtain ⟨xb, hxb⟩ : ∃ z, decide ((q8 : Int) ≤ ((c - a' : Nat) : Int)) = z := ⟨_, rfl⟩
                      have XB := Lib.hid hxb
                      clear hxb
                      go_wp2_with (first
                        | (refine wpList_val rfl _ (exec_subn _ _ rfl (c : Int) (a' : Int) ((c - a' : Nat) : Int) rfl rfl (by omega) (by omega)) ?_)
                        | (refine wpList_val rfl _ (exec_subn _ _ rfl (b' : Int) (c : Int) ((b' - c : Nat) : Int) rfl rfl (by omega) (by omega)) ?_)
                        | (refine wpList_val rfl _ (exec_quo8 _ rfl L q8 rfl Q8.out (by omega)) ?_)
                        | (refine wpList_val rfl _ (exec_lt _ _ rfl ((c - a' : Nat) : Int) ((b' - c : Nat) : Int) true rfl rfl (decide_eq_true (by omega))) ?_)
                        | (refine wpList_val rfl _ (exec_ge _ _ rfl ((c - a' : Nat) : Int) (q8 : Int) xb rfl rfl XB.out) ?_))
                      refine (IH.out (c - a') (by have := HD.out; omega) B g n cap a' c lm2 m5 w5 (Nat.le_refl _) D5.out (by omega) hn (by omega) hlm2 (prd_left0 R5.out hc5.2) GB5.out).mono ?_
                      rintro e w6 ⟨rfl, o6, m6, d6, p6, s6⟩
                      have D6 := Lib.hid d6
                      have O6 := Lib.hid (O5.out.trans o6)
                      have P6 := Lib.hid (P5.out.trans (p6.mono hr.1 (by omega) (by have := ML.out; have := LB.out; have := P5.out.len; omega)))
                      have U6 := Lib.hid (out_left U5.out hr.1 hr.2.2 hc5 T5.out (by have := ML5.out; omega) p6 s6)
                      have R6 := Lib.hid (prd_right T5.out p6)
                      clear d6 o6 p6 s6
                      go_wp2_with (refine wpList_val rfl _ (exec_addn _ _ rfl (c : Int) 1 ((c + 1 : Nat) : Int) rfl rfl (by omega) (by omega)) ?_)
                      go_roundw
                      case rel => exact ⟨c + 1, b', lm2, xb, t5, m6, rfl, rfl, rfl, rfl, rfl, by omega, hlm2, D6.out, P6.out, U6.out, R6.out, O6.out⟩
                      case measure => simp [intOf]; omega
                    · obtain ⟨xb, hxb⟩ : ∃ z, decide ((q8 : Int) ≤ ((b' - c : Nat) : Int)) = z := ⟨_, rfl⟩
                      have XB := Lib.hid hxb
                      clear hxb
                      go_wp2_with (first
                        | (refine wpList_val rfl _ (exec_subn _ _ rfl (c : Int) (a' : Int) ((c - a' : Nat) : Int) rfl rfl (by omega) (by omega)) ?_)
                        | (refine wpList_val rfl _ (exec_subn _ _ rfl (b' : Int) (c : Int) ((b' - c : Nat) : Int) rfl rfl (by omega) (by omega)) ?_)
                        | (refine wpList_val rfl _ (exec_quo8 _ rfl L q8 rfl Q8.out (by omega)) ?_)
                        | (refine wpList_val rfl _ (exec_lt _ _ rfl ((c - a' : Nat) : Int) ((b' - c : Nat) : Int) false rfl rfl (decide_eq_false (by omega))) ?_)
                        | (refine wpList_val rfl _ (exec_ge _ _ rfl ((b' - c : Nat) : Int) (q8 : Int) xb rfl rfl XB.out) ?_)
                        | (refine wpList_val rfl _ (exec_addn _ _ rfl (c : Int) 1 ((c + 1 : Nat) : Int) rfl rfl (by omega) (by omega)) ?_))
                      refine (IH.out (b' - (c + 1)) (by have := HD.out; omega) B g n cap (c + 1) b' lm2 m5 w5 (Nat.le_refl _) D5.out (by omega) hn (by omega) hlm2 (prd_right0 T5.out) GB5.out).mono ?_
                      rintro e w6 ⟨rfl, o6, m6, d6, p6, s6⟩
                      have D6 := Lib.hid d6
                      have O6 := Lib.hid (O5.out.trans o6)
                      have P6 := Lib.hid (P5.out.trans (p6.mono (by omega) hr.2.2 (by have := ML.out; have := LB.out; have := P5.out.len; omega)))
                      have U6 := Lib.hid (out_right U5.out hr.1 hr.2.2 hc5 T5.out (by have := ML5.out; omega) p6 s6)
                      have R6 := Lib.hid (prd_left R5.out hc5.2 p6)
                      clear d6 o6 p6 s6
                      go_wp2_with fail
                      go_roundw
                      case rel => exact ⟨a', c, lm2, xb, t5, m6, rfl, rfl, rfl, rfl, rfl, by omega, hlm2, D6.out, P6.out, U6.out, R6.out, O6.out⟩
                      case measure => simp [intOf]; omega
end Go.Proofs.YtnpbmihbmilkbaaGreat
