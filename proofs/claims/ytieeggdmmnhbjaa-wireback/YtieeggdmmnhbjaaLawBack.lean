/- The walk of WireBack. -/
import Derived.Test.YtieeggdmmnhbjaaBackP
namespace Go.Proofs.Ytieeggdmmnhbjaa
open Go.RowKit

def BW (ps : List Pc) (w : World) (i : Value) (wr : World) : Prop := ∃ k : Nat, k ≤ ps.length ∧ i = .int .i64 k ∧ WrAt wr w.heap.size (encs (ps.take k)) ∧ Below w.heap.size w wr ∧ ∀ j (h : j < ps.length), j < k → Fine ps[j]
def BR (ps : List Pc) (w : World) (g : Nat) (R : Option Nat) (i : Value) (wr : World) : Prop := ∃ k : Nat, k ≤ ps.length ∧ i = .int .i64 k ∧ CurAt wr g R 0 (encs (ps.drop k)) ∧ Below w.heap.size w wr
def BN (ps : List Pc) (w : World) (g : Nat) (R : Option Nat) (i : Value) (wr : World) : Prop := ∃ k : Nat, k ≤ ps.length ∧ i = .int .i64 k ∧ CurAt wr g R 0 [] ∧ Below w.heap.size w wr
set_option maxRecDepth 100000 in
set_option maxHeartbeats 1000000 in
theorem back_some (G off cap : Nat) (ps : List Pc) (w : World) (hG : G < w.heap.size) (hr : Hid (∀ i (h : i < ps.length), w.rangeAt G (off + i * 13) ps[i].cells)) (hok : Hid (∀ p ∈ ps, p.Ok w)) :
    Calls Try.prog 5 #[.slice (some ⟨G, off, none⟩) ps.length cap] w (Holds_ w) := by
  have hz := zero23
  go_enter Try.func5, Try.ntmps5
  go_wp2_with fail
  refine (large_some G off cap ps _ hr hok).mono ?_
  rintro e w1 ⟨rfl, rfl | ⟨rfl, hf⟩⟩
  · go_wp2_with fail
    refine (alive_is _).mono ?_
    rintro e w2 ⟨rfl, b2⟩
    have B2 := Lib.hid b2
    clear b2
    go_wp2_with fail
    go_ret
    exact ⟨rfl, B2.out⟩
  have HF := Lib.hid hf
  clear hf
  go_wp2_with fail
  refine (new_is _).mono ?_
  rintro e w1 ⟨rfl, h1, b1⟩
  have H1 := Lib.hid h1
  have B1 := Lib.hid b1
  clear h1 b1
  go_wp2_with fail
  go_loopw [4] (fun i wr => BW ps w i wr) (fun i _ => ps.length - (intOf i).toNat)
  case atStart => exact ⟨0, Nat.zero_le _, rfl, H1.out, B1.out, fun j _ h => by omega⟩
  case round =>
    obtain ⟨k, hk, rfl, hw, hbel, hfine⟩ := hrel
    by_cases hlt : k < ps.length
    · have hp := hok.out _ (List.getElem_mem hlt)
      obtain ⟨p, hpk⟩ : ∃ p, ps[k] = p := ⟨_, rfl⟩
      rw [hpk] at hp
      have q := range_below (hr.out k hlt) hG hbel
      rw [hpk] at q
      have c0 : wr.cell? ⟨G, off + k * 13, none⟩ = some (.int .i64 p.d) := q 0 _ (cells0 p)
      have HN := Lib.hid (range_name q hp.ml)
      have HQ := Lib.hid q
      have HP := Lib.hid hp
      have HB := Lib.hid (hpk ▸ HF.out.2 _ (List.getElem_mem hlt))
      have HW := Lib.hid hw
      have HBel := Lib.hid hbel
      have HFine := Lib.hid hfine
      have HS := Lib.hid (hpk ▸ encs_take ps k hlt)
      have HL1 := Lib.hid (encs_len (fun q hq => hok.out q (List.mem_of_mem_take hq)) (few_take HF.out k))
      have HT := Lib.hid (few_take HF.out k).1
      have HPK := Lib.hid hpk
      have b0 : (0 : Int) ≤ (k : Int) := by omega
      have b1 : (k : Int) < (ps.length : Int) := by omega
      have b2 : (k : Int) < 40 := by have := HF.out.1; omega
      have hq : ∀ w d, (Op.equalIn (d + 2) 30 (.agg (nm p.m)) (.agg (nm M.zero8))).run Try.prog w = .ok (p.m == M.zero8) w := fun w d => eql23 p.m M.zero8 HP.out.ml rfl d w
      clear hw hbel hp q hpk hfine
      by_cases hd : p.d = 2
      · by_cases hzero : p.m = M.zero8
        · have hb : (p.m == M.zero8) = true := by simp [hzero]
          have HFP := Lib.hid (show Fine p from fun _ => .inl hzero)
          clear hzero
          go_wp2_with (first
            | refine wpList_load_pc rfl _ rfl G (off + k * 13) p rfl HQ.out HP.out.ml ?_
            | (refine wanted_on rfl ?_; refine wpList_load_nm rfl _ rfl G (off + k * 13 + 3) p.m rfl HN.out HP.out.ml ?_))
          refine (write_is w.heap.size _ p w _ HW.out HP.out HBel.out (Nat.le_refl _) (by have h1 := HL1.out; have h2 := HT.out; have h3 := HB.out; omega) (Nat.le_trans HB.out (by omega))).mono ?_
          rintro e w2 ⟨⟨y, rfl⟩, hw2, hb2⟩
          rw [← HS.out] at hw2
          have H2 := Lib.hid hw2
          have B2 := Lib.hid (HBel.out.trans hb2)
          clear hw2 hb2
          go_wp2_with fail
          go_roundw
          case rel => exact ⟨k + 1, by omega, by go_num, H2.out, B2.out, fun j h hj => by
            by_cases e : j = k
            · subst e; rw [HPK.out]; exact HFP.out
            · exact HFine.out j h (by omega)⟩
          case measure => simp [intOf]; omega
        · have hb : (p.m == M.zero8) = false := by simp [hzero]
          obtain ⟨b, hrb⟩ : ∃ b, M.rightB p.m = b := ⟨_, rfl⟩
          have HRB := Lib.hid hrb
          have HMB := Lib.hid HP.out.mb
          clear hzero hrb
          go_wp2_with (first
            | refine wpList_load_pc rfl _ rfl G (off + k * 13) p rfl HQ.out HP.out.ml ?_
            | (refine wanted_on rfl ?_; refine wpList_load_nm rfl _ rfl G (off + k * 13 + 3) p.m rfl HN.out HP.out.ml ?_))
          refine (refRight_is p.m b _ HP.out.ml HMB HRB).mono ?_
          rintro e w3 ⟨rfl, c3⟩
          have B3 := Lib.hid (step_ HBel.out c3)
          have W3 := Lib.hid (HW.out.below c3)
          clear c3
          cases b with
          | false =>
            go_wp2_with fail
            refine (alive_is _).mono ?_
            rintro e w4 ⟨rfl, b4⟩
            have B4 := Lib.hid (step_ B3.out b4)
            clear b4
            go_wp2_with fail
            go_ret
            exact ⟨rfl, B4.out⟩
          | true =>
            have HFP := Lib.hid (show Fine p from fun _ => .inr HRB.out)
            have HQ3 := Lib.hid (range_below (hr.out k hlt) hG B3.out)
            rw [HPK.out] at HQ3
            go_wp2_with (refine wpList_load_pc rfl _ rfl G (off + k * 13) p rfl HQ3.out HP.out.ml ?_)
            refine (write_is w.heap.size _ p w _ W3.out HP.out B3.out (Nat.le_refl _) (by have h1 := HL1.out; have h2 := HT.out; have h3 := HB.out; omega) (Nat.le_trans HB.out (by omega))).mono ?_
            rintro e w2 ⟨⟨y, rfl⟩, hw2, hb2⟩
            rw [← HS.out] at hw2
            have H2 := Lib.hid hw2
            have B2 := Lib.hid (B3.out.trans hb2)
            clear hw2 hb2
            go_wp2_with fail
            go_roundw
            case rel => exact ⟨k + 1, by omega, by go_num, H2.out, B2.out, fun j h hj => by
              by_cases e : j = k
              · subst e; rw [HPK.out]; exact HFP.out
              · exact HFine.out j h (by omega)⟩
            case measure => simp [intOf]; omega
      · have HFP := Lib.hid (show Fine p from fun h => absurd h hd)
        have hd2 : (p.d == 2) = false := by simp [hd]
        go_wp2_with (refine wpList_load_pc rfl _ rfl G (off + k * 13) p rfl HQ.out HP.out.ml ?_)
        refine (write_is w.heap.size _ p w _ HW.out HP.out HBel.out (Nat.le_refl _) (by have h1 := HL1.out; have h2 := HT.out; have h3 := HB.out; omega) (Nat.le_trans HB.out (by omega))).mono ?_
        rintro e w2 ⟨⟨y, rfl⟩, hw2, hb2⟩
        rw [← HS.out] at hw2
        have H2 := Lib.hid hw2
        have B2 := Lib.hid (HBel.out.trans hb2)
        clear hw2 hb2
        go_wp2_with fail
        go_roundw
        case rel => exact ⟨k + 1, by omega, by go_num, H2.out, B2.out, fun j h hj => by
          by_cases e : j = k
          · subst e; rw [HPK.out]; exact HFP.out
          · exact HFine.out j h (by omega)⟩
        case measure => simp [intOf]; omega
    · obtain rfl : k = ps.length := by omega
      rw [List.take_length] at hw
      have HW := Lib.hid hw
      have HBel := Lib.hid hbel
      have HFine := Lib.hid (fun j (h : j < ps.length) => hfine j h h)
      have HLen := Lib.hid (show (encs ps).length ≤ 30000 by have h1 := encs_len hok.out HF.out; have h2 := HF.out.1; omega)
      have hz33 := zero33
      clear hw hbel hfine H1 B1
      go_wp2_with fail
      refine (out_is w.heap.size (encs ps) _ HW.out HLen.out).mono ?_
      rintro e w2 ⟨v2, rfl, hv2, hb2⟩
      have V2 := Lib.hid hv2
      have B2 := Lib.hid (step_ HBel.out hb2)
      clear hv2 hb2 HW HBel
      go_wp2_with fail
      refine (from_is v2 (encs ps) _ V2.out HLen.out).mono ?_
      rintro e w3 ⟨g, R, rfl, hg, hc3, hb3⟩
      have C3 := Lib.hid hc3
      have B3 := Lib.hid (step_ B2.out hb3)
      have hgw : w.heap.size ≤ g := Nat.le_trans B2.out.size hg
      clear hc3 hb3 hg V2
      go_wp2_with fail
      go_loopw [6] (fun i wr => BR ps w g R i wr) (fun i _ => ps.length - (intOf i).toNat)
      case atStart => exact ⟨0, Nat.zero_le _, rfl, C3.out, B3.out⟩
      case round =>
        obtain ⟨k2, hk2, rfl, hc, hbel⟩ := hrel
        by_cases hlt : k2 < ps.length
        · have hp := hok.out _ (List.getElem_mem hlt)
          obtain ⟨p, hpk⟩ : ∃ p, ps[k2] = p := ⟨_, rfl⟩
          rw [hpk] at hp
          rw [encs_drop ps k2 hlt, hpk] at hc
          have q := range_below (hr.out k2 hlt) hG hbel
          rw [hpk] at q
          have HFP := Lib.hid (hpk ▸ HFine.out k2 hlt)
          obtain ⟨va, vcap, hv⟩ : ∃ a cap, p.v = .slice a p.b.length cap := by obtain ⟨a, cap, e, _⟩ := hp.vb; exact ⟨a, cap, e⟩
          have HQ := Lib.hid q
          have HP := Lib.hid hp
          have HB := Lib.hid (hpk ▸ HF.out.2 _ (List.getElem_mem hlt))
          have HC := Lib.hid hc
          have HFar := Lib.hid (hc.far (Nat.le_refl _))
          have HBel := Lib.hid hbel
          have HZ := Lib.hid (blk_alloc wr 33 (blank 0).cells)
          have HSz := Lib.hid (show w.heap.size ≤ wr.heap.size from hbel.size)
          have HV := Lib.hid hv
          have hbl : (p.b.length : Int) ≤ 60 := by have := HB.out; omega
          have b0 : (0 : Int) ≤ (k2 : Int) := by omega
          have b1 : (k2 : Int) < (ps.length : Int) := by omega
          have b2 : (k2 : Int) < 40 := by have := HF.out.1; omega
          clear hc hbel hp q hpk hv
          go_wp2_with (first
            | refine wpList_load_pc rfl _ rfl G (off + k2 * 13) p rfl HQ.out HP.out.ml ?_
            | (refine wpList_store_pc rfl _ _ rfl wr.heap.size (blank 0) p rfl rfl HZ.out rfl HP.out.ml HP.out.vb.one ?_; intro w4 N4 O4; have c11 := N4.out.cell (cells11 HP.out.ml); rw [HV.out] at c11; have d12 := N4.out.cell (cells12 HP.out.ml); have f12 := N4.out.frozen 12; have N5 := Lib.hid (N4.out.set 12 (.int .i64 p.b.length)); rw [set12 p HP.out.ml] at N5; have C5 := Lib.hid (((HC.out.alloc (.cells (blank 0).cells.toArray 33)).only O4.out HFar.out.1 HFar.out.2).only (Only.set wr.heap.size 12 w4 (.int .i64 p.b.length)) HFar.out.1 HFar.out.2); have B5 := Lib.hid (HBel.out.trans (((((Only.refl wr.heap.size wr).alloc (.cells (blank 0).cells.toArray 33)).trans O4.out).setCell 12 (.int .i64 p.b.length)).below HSz.out HSz.out)))
            | refine wpList_load_pc rfl _ rfl wr.heap.size 0 { p with n := p.b.length } rfl N5.out.range HP.out.ml ?_)
          refine (readBack g R { p with n := p.b.length } (encs (ps.drop (k2 + 1))) _ C5.out ⟨HP.out.ml, HP.out.mb, HP.out.x0, HP.out.x1, HP.out.c0, HP.out.c1, by have := HB.out; show (p.b.length : Int) < 9223372036854775808; omega, HP.out.vb.below B5.out⟩ rfl HB.out HFP.out).mono ?_
          rintro r w6 ⟨⟨ax, ac, am, ab⟩, v6, rfl, hnl, ⟨hx, hcx, hnx, hbx⟩, hv6, ⟨vc, lc, hc6, hlc⟩, ho6⟩
          obtain ⟨av, an, acap, rfl⟩ : ∃ a n cap, v6 = .slice a n cap := by obtain ⟨a, cap, e⟩ := hv6.shape; exact ⟨a, _, cap, e⟩
          have HNL := Lib.hid hnl
          have HLC : Hid (∀ W, Cur W g R 0 vc lc → CurAt W g R 0 (encs (ps.drop (k2 + 1)))) := Lib.hid (fun W hW => ⟨vc, lc, hW, hlc⟩)
          have F6 := Lib.hid (hc6.far (Nat.le_refl _))
          have C6 := Lib.hid (hc6.alloc (.cells (blank 0).cells.toArray 33))
          have V6 := Lib.hid (hv6.alloc (.cells (blank 0).cells.toArray 33))
          have N8 := Lib.hid (blk_alloc w6 33 (blank 0).cells)
          have M6 := Lib.hid (N5.out.only ho6 HFar.out.1.symm)
          have M7 := Lib.hid (M6.out.alloc (.cells (blank 0).cells.toArray 33))
          have S78 := Lib.hid (Nat.ne_of_lt M6.out.lt)
          have B6 := Lib.hid ((B5.out.trans (ho6.below hgw B5.out.size)).alloc (Nat.le_trans B5.out.size ho6.size) (.cells (blank 0).cells.toArray 33))
          have S6 := Lib.hid (Nat.le_trans B5.out.size ho6.size)
          have S6b := Lib.hid B6.out.size
          clear hnl hlc hc6 hv6 ho6 c11 d12 f12
          by_cases hd0 : p.d = 0
          · obtain rfl : ax = p.x := hx hd0
            go_wp2_with (first
              | (refine wpList_store_pc rfl _ _ rfl w6.heap.size (blank 0) (gotP 0 ⟨p.x, ac, am, ab⟩ (.slice av an acap)) rfl rfl N8.out rfl HNL.out rfl ?_; intro w7 N7 O7; have D7 := Lib.hid (M7.out.only O7.out S78.out); have C7 := Lib.hid (C6.out.only O7.out F6.out.1 F6.out.2); have V7 := Lib.hid (V6.out.only O7.out F6.out.2); have B7 := Lib.hid (B6.out.trans (O7.out.below S6.out S6b.out)); have i0 := D7.out.cell (cells0 _); have i1 := D7.out.cell (cells1 _); have j1 := N7.out.cell (cells1 _)))
            refine (err_is g 0 vc _ C7.out.1).mono ?_
            rintro e w8 ⟨rfl, rfl⟩
            go_wp2_with fail
            go_roundw
            case rel => exact ⟨k2 + 1, by omega, by go_num, HLC.out _ C7.out, B7.out⟩
            case measure => simp [intOf]; omega
          by_cases hd1 : p.d = 1
          · obtain rfl : ac = p.c := hcx hd1
            go_wp2_with (first
              | (refine wpList_store_pc rfl _ _ rfl w6.heap.size (blank 0) (gotP 1 ⟨ax, p.c, am, ab⟩ (.slice av an acap)) rfl rfl N8.out rfl HNL.out rfl ?_; intro w7 N7 O7; have D7 := Lib.hid (M7.out.only O7.out S78.out); have C7 := Lib.hid (C6.out.only O7.out F6.out.1 F6.out.2); have V7 := Lib.hid (V6.out.only O7.out F6.out.2); have B7 := Lib.hid (B6.out.trans (O7.out.below S6.out S6b.out)); have i0 := D7.out.cell (cells0 _); have i1 := D7.out.cell (cells2 _); have j1 := N7.out.cell (cells2 _)))
            refine (err_is g 0 vc _ C7.out.1).mono ?_
            rintro e w8 ⟨rfl, rfl⟩
            go_wp2_with fail
            go_roundw
            case rel => exact ⟨k2 + 1, by omega, by go_num, HLC.out _ C7.out, B7.out⟩
            case measure => simp [intOf]; omega
          by_cases hd2 : p.d = 2
          · obtain rfl : am = p.m := hnx hd2
            have hq2 : ∀ w d, (Op.equalIn (d + 2) 30 (.agg (nm p.m)) (.agg (nm p.m))).run Try.prog w = .ok true w := fun w d => by have := eql23 p.m p.m HNL.out HNL.out d w; rwa [beq_self_eq_true] at this
            go_wp2_with (first
              | refine wpList_load_nm rfl (.tmp 97) rfl w6.heap.size 3 p.m rfl J3.out HNL.out ?_
              | refine wpList_load_nm rfl (.tmp 99) rfl wr.heap.size 3 p.m rfl I3.out HNL.out ?_
              | (refine wpList_store_pc rfl _ _ rfl w6.heap.size (blank 0) (gotP 2 ⟨ax, ac, p.m, ab⟩ (.slice av an acap)) rfl rfl N8.out rfl HNL.out rfl ?_; intro w7 N7 O7; have D7 := Lib.hid (M7.out.only O7.out S78.out); have C7 := Lib.hid (C6.out.only O7.out F6.out.1 F6.out.2); have V7 := Lib.hid (V6.out.only O7.out F6.out.2); have B7 := Lib.hid (B6.out.trans (O7.out.below S6.out S6b.out)); have i0 := D7.out.cell (cells0 _); have I3 := Lib.hid (D7.out.nm HNL.out); have J3 := Lib.hid (N7.out.nm HNL.out)))
            refine (err_is g 0 vc _ C7.out.1).mono ?_
            rintro e w8 ⟨rfl, rfl⟩
            go_wp2_with fail
            go_roundw
            case rel => exact ⟨k2 + 1, by omega, by go_num, HLC.out _ C7.out, B7.out⟩
            case measure => simp [intOf]; omega
          obtain rfl : ab = p.b := hbx hd0 hd1 hd2
          go_wp2_with (first
            | (refine wpList_store_pc rfl _ _ rfl w6.heap.size (blank 0) (gotP p.d ⟨ax, ac, am, p.b⟩ (.slice av an acap)) rfl rfl N8.out rfl HNL.out rfl ?_; intro w7 N7 O7; have D7 := Lib.hid (M7.out.only O7.out S78.out); have C7 := Lib.hid (C6.out.only O7.out F6.out.1 F6.out.2); have V7 := Lib.hid (V6.out.only O7.out F6.out.2); have B7 := Lib.hid (B6.out.trans (O7.out.below S6.out S6b.out)); have i0 := D7.out.cell (cells0 _); have i1 : w7.cell? ⟨wr.heap.size, 11, none⟩ = some (.slice va p.b.length vcap) := (by rw [← HV.out]; exact D7.out.cell (cells11 (p := { p with n := p.b.length }) HP.out.ml)); have j1 := N7.out.cell (cells11 (p := gotP p.d ⟨ax, ac, am, p.b⟩ (.slice av an acap)) HNL.out)))
          refine (same_any _ _ p.b _ (Nat.le_trans HB.out (by omega)) V7.out.1 (HV.out ▸ HP.out.vb.below B7.out)).mono ?_
          rintro e w9 ⟨rfl, c9⟩
          have C9 := Lib.hid (C7.out.below c9)
          have B9 := Lib.hid (step_ B7.out c9)
          clear c9
          go_wp2_with fail
          refine (err_is g 0 vc _ C9.out.1).mono ?_
          rintro e w8 ⟨rfl, rfl⟩
          go_wp2_with fail
          go_roundw
          case rel => exact ⟨k2 + 1, by omega, by go_num, HLC.out _ C9.out, B9.out⟩
          case measure => simp [intOf]; omega
        · obtain rfl : k2 = ps.length := by omega
          rw [encs_end] at hc
          have HC := Lib.hid hc
          have HBel := Lib.hid hbel
          clear hc hbel C3 B3
          go_wp2_with fail
          go_loopw [12] (fun i wr => BN ps w g R i wr) (fun i _ => ps.length - (intOf i).toNat)
          case atStart => exact ⟨0, Nat.zero_le _, rfl, HC.out, HBel.out⟩
          case round =>
            obtain ⟨k3, hk3, rfl, hc, hbel⟩ := hrel
            by_cases hlt : k3 < ps.length
            · have hp := hok.out _ (List.getElem_mem hlt)
              obtain ⟨p, hpk⟩ : ∃ p, ps[k3] = p := ⟨_, rfl⟩
              rw [hpk] at hp
              have hq0 : ∀ W, Below w.heap.size w W → W.rangeAt G (off + k3 * 13) p.cells := fun W hW => hpk ▸ range_below (hr.out k3 hlt) hG hW
              have HQ := Lib.hid (hq0 _ hbel)
              have HP := Lib.hid hp
              have HB := Lib.hid (hpk ▸ HF.out.2 _ (List.getElem_mem hlt))
              have HC := Lib.hid hc
              have HBel := Lib.hid hbel
              have b0 : (0 : Int) ≤ (k3 : Int) := by omega
              have b1 : (k3 : Int) < (ps.length : Int) := by omega
              have b2 : (k3 : Int) < 40 := by have := HF.out.1; omega
              have HQ0 := Lib.hid hq0
              clear hc hbel hp hpk hq0
              go_wp2_with (refine wpList_load_pc rfl _ rfl G (off + k3 * 13) p rfl HQ.out HP.out.ml ?_)
              refine (write_none p _ (HP.out.below HBel.out) (Nat.le_trans HB.out (by omega))).mono ?_
              rintro e w4 ⟨⟨y, rfl⟩, c4⟩
              have B4 := Lib.hid (step_ HBel.out c4)
              have C4 := Lib.hid (HC.out.below c4)
              have Q4 := Lib.hid (HQ0.out _ B4.out)
              have D4 := Lib.hid (show w4.cell? ⟨G, off + k3 * 13, none⟩ = some (.int .i64 p.d) from Q4.out 0 _ (cells0 p))
              clear c4
              go_wp2_with fail
              refine region_later (by kernel_rfl) (by kernel_rfl) ?_
              go_big_quiet_step (fail)
              go_big_quiet_step (fail)
              go_big_quiet_step (fail)
              go_big_quiet_step (fail)
              (go_big_quiet_want; refine quiet_load_pc G (off + k3 * 13) p _ rfl rfl Q4.out (Nat.lt_of_lt_of_le hG B4.out.size) HP.out.ml ?_; go_simp; go_big_quiet_on)
              go_big_quiet_step (exact later_call (readP_none p _ (HP.out.below (B4.out.trans (Below.mono (Subtype.property _) B4.out.size)))))
              go_big_quiet_step (fail)
              go_big_quiet_step (fail)
              go_big_quiet_step (fail)
              go_big_quiet_step (fail)
              (go_big_quiet_want; refine quiet_load_int G (off + k3 * 13) p.d _ rfl rfl D4.out ?_; go_simp; go_big_quiet_on)
              (go_big_quiet_want; refine quiet_blank p.d _ rfl rfl ?_; go_simp; go_big_quiet_on)
              go_big_quiet_step (exact later_call (sameP_is (blank p.d) (.slice none 0 0) _ rfl (by show 0 ≤ 30000; omega) (bytes_nil _) (bytes_nil _)))
              repeat go_big_quiet_step (fail)
              refine wpQuiet_nil ?_
              intro w6 hw6
              have S6 := Lib.hid (step_ B4.out hw6)
              have C6 := Lib.hid (C4.out.below hw6)
              clear hw6
              go_wp2
              go_roundw
              case rel => exact ⟨k3 + 1, by omega, by go_num, C6.out, S6.out⟩
              case measure => simp [intOf]; omega
            · obtain ⟨vc, lc, hcur, -, hlc, -⟩ := hc
              obtain rfl := hlc rfl
              have HC := Lib.hid hcur
              have HBel := Lib.hid hbel
              clear hcur hbel hlc
              go_wp2_with fail
              refine (done_end g R vc _ HC.out).mono ?_
              rintro e w4 ⟨rfl, rfl⟩
              go_wp2_with fail
              refine (fail_is g 0 0 vc _ HC.out.1).mono ?_
              rintro e w4 ⟨⟨y, rfl⟩, hb4, ho4⟩
              have K4 := Lib.hid (show Blk w4 g 61 [.int .i64 0, vc] from hb4)
              have B4 := Lib.hid (HBel.out.trans (ho4.below hgw HBel.out.size))
              clear hb4 ho4
              go_wp2_with fail
              refine (fail_nil 3 _).mono ?_
              rintro e w5 ⟨⟨y, rfl⟩, rfl⟩
              go_wp2_with fail
              refine (err_is g 0 vc _ K4.out).mono ?_
              rintro e w5 ⟨rfl, rfl⟩
              go_wp2_with fail
              refine (fail_is g 0 13 vc _ K4.out).mono ?_
              rintro e w5 ⟨⟨y, rfl⟩, hb5, ho5⟩
              have K5 := Lib.hid (show Blk w5 g 61 [.int .i64 13, vc] from hb5)
              have B5 := Lib.hid (B4.out.trans (ho5.below hgw B4.out.size))
              clear hb5 ho5
              go_wp2_with fail
              refine (fail_is g 13 3 vc _ K5.out).mono ?_
              rintro e w6 ⟨⟨y, rfl⟩, hb6, ho6⟩
              have K6 := Lib.hid (show Blk w6 g 61 [.int .i64 13, vc] from hb6)
              have B6 := Lib.hid (B5.out.trans (ho6.below hgw B5.out.size))
              clear hb6 ho6
              go_wp2_with fail
              refine (err_is g 13 vc _ K6.out).mono ?_
              rintro e w7 ⟨rfl, rfl⟩
              go_wp2_with fail
              refine (left_bad g 13 vc _ K6.out (by decide)).mono ?_
              rintro e w7 ⟨rfl, rfl⟩
              go_wp2_with fail
              refine (err_nil _).mono ?_
              rintro e w7 ⟨rfl, rfl⟩
              go_wp2_with fail
              refine (done_nil _).mono ?_
              rintro e w7 ⟨rfl, rfl⟩
              go_wp2_with fail
              refine (left_nil _).mono ?_
              rintro e w7 ⟨rfl, rfl⟩
              go_wp2_with fail
              refine (out_none _).mono ?_
              rintro e w7 ⟨rfl, rfl⟩
              go_wp2_with fail
              refine (alive_is _).mono ?_
              rintro e w7 ⟨rfl, b7⟩
              have B7 := Lib.hid (step_ B6.out b7)
              clear b7
              go_wp2_with fail
              go_ret
              exact ⟨rfl, B7.out⟩
set_option maxRecDepth 100000 in
theorem back_nil (a : Option Addr) (cap : Nat) (w : World) : Calls Try.prog 5 #[.slice a 0 cap] w (Holds_ w) := by
  have hz := zero23
  go_enter Try.func5, Try.ntmps5
  go_wp2_with fail
  refine (large_nil a cap _).mono ?_
  rintro e w1 ⟨rfl, rfl⟩
  go_wp2_with fail
  refine (new_is _).mono ?_
  rintro e w1 ⟨rfl, h1, b1⟩
  have H1 := Lib.hid h1
  have B1 := Lib.hid b1
  clear h1 b1
  go_wp2_with fail
  refine wp_loop_rounds 1 ?_
  rw [rounds_succ]
  go_wp2_with fail
  refine (out_is w.heap.size [] _ H1.out (by simp)).mono ?_
  rintro e w2 ⟨v2, rfl, hv2, hb2⟩
  have V2 := Lib.hid hv2
  have B2 := Lib.hid (step_ B1.out hb2)
  clear hv2 hb2
  go_wp2_with fail
  refine (from_is v2 [] _ V2.out (by simp)).mono ?_
  rintro e w3 ⟨g, R, rfl, hg, ⟨vc, lc, hcur, -, hlc, -⟩, hb3⟩
  obtain rfl := hlc rfl
  have HC := Lib.hid hcur
  have HBel := Lib.hid (step_ B2.out hb3)
  have hgw : w.heap.size ≤ g := Nat.le_trans B2.out.size hg
  clear hcur hb3 hlc hg V2
  go_wp2_with fail
  refine wp_loop_rounds 1 ?_
  rw [rounds_succ]
  go_wp2_with fail
  refine wp_loop_rounds 1 ?_
  rw [rounds_succ]
  go_wp2_with fail
  refine (done_end g R vc _ HC.out).mono ?_
  rintro e w4 ⟨rfl, rfl⟩
  go_wp2_with fail
  refine (fail_is g 0 0 vc _ HC.out.1).mono ?_
  rintro e w4 ⟨⟨y, rfl⟩, hb4, ho4⟩
  have K4 := Lib.hid (show Blk w4 g 61 [.int .i64 0, vc] from hb4)
  have B4 := Lib.hid (HBel.out.trans (ho4.below hgw HBel.out.size))
  clear hb4 ho4
  go_wp2_with fail
  refine (fail_nil 3 _).mono ?_
  rintro e w5 ⟨⟨y, rfl⟩, rfl⟩
  go_wp2_with fail
  refine (err_is g 0 vc _ K4.out).mono ?_
  rintro e w5 ⟨rfl, rfl⟩
  go_wp2_with fail
  refine (fail_is g 0 13 vc _ K4.out).mono ?_
  rintro e w5 ⟨⟨y, rfl⟩, hb5, ho5⟩
  have K5 := Lib.hid (show Blk w5 g 61 [.int .i64 13, vc] from hb5)
  have B5 := Lib.hid (B4.out.trans (ho5.below hgw B4.out.size))
  clear hb5 ho5
  go_wp2_with fail
  refine (fail_is g 13 3 vc _ K5.out).mono ?_
  rintro e w6 ⟨⟨y, rfl⟩, hb6, ho6⟩
  have K6 := Lib.hid (show Blk w6 g 61 [.int .i64 13, vc] from hb6)
  have B6 := Lib.hid (B5.out.trans (ho6.below hgw B5.out.size))
  clear hb6 ho6
  go_wp2_with fail
  refine (err_is g 13 vc _ K6.out).mono ?_
  rintro e w7 ⟨rfl, rfl⟩
  go_wp2_with fail
  refine (left_bad g 13 vc _ K6.out (by decide)).mono ?_
  rintro e w7 ⟨rfl, rfl⟩
  go_wp2_with fail
  refine (err_nil _).mono ?_
  rintro e w7 ⟨rfl, rfl⟩
  go_wp2_with fail
  refine (done_nil _).mono ?_
  rintro e w7 ⟨rfl, rfl⟩
  go_wp2_with fail
  refine (left_nil _).mono ?_
  rintro e w7 ⟨rfl, rfl⟩
  go_wp2_with fail
  refine (out_none _).mono ?_
  rintro e w7 ⟨rfl, rfl⟩
  go_wp2_with fail
  refine (alive_is _).mono ?_
  rintro e w7 ⟨rfl, b7⟩
  have B7 := Lib.hid (step_ B6.out b7)
  clear b7
  go_wp2_with fail
  go_ret
  exact ⟨rfl, B7.out⟩
theorem wireBack_any (v : Value) (ps : List Pc) (w : World) (h : PsAt w v ps) : Calls Try.prog 5 #[v] w (Holds_ w) := by
  obtain ⟨⟨a, cap, rfl, hc, h0⟩, hok⟩ := h
  by_cases hp : 0 < ps.length
  · obtain ⟨G, off, rfl, hG, hr⟩ := h0 hp
    exact back_some G off cap ps w hG (Lib.hid hr) (Lib.hid hok)
  · obtain rfl : ps = [] := List.eq_nil_of_length_eq_zero (by omega)
    exact back_nil a cap w
end Go.Proofs.Ytieeggdmmnhbjaa
