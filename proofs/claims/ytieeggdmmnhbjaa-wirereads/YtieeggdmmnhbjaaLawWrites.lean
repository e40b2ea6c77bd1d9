/- The contract of alive; the walk of WireWrites. -/
import Derived.Test.YtieeggdmmnhbjaaOuts
namespace Go.Proofs.Ytieeggdmmnhbjaa
open Go.RowKit

def lAB : List Int := [97, 98, 0, 0, 0, 0, 0, 0]
theorem lAB_len : lAB.length = 8 := rfl
theorem lAB_bytes : M.Bytes lAB := by unfold M.Bytes lAB; decide
theorem alive_bytes : [] ++ M.var 300 ++ ((M.text lAB).length : Int) :: M.text lAB = [172, 2, 2, 97, 98] := by
  rw [M.var_ge 300 (by decide), M.var_lt (300 / 128) (by decide) (by decide)]
  decide
theorem owns_five (w : World) (base : Nat) (hb : base ≤ w.heap.size) (a b c d e : Int) : (w.alloc (.cells #[.int .u8 a, .int .u8 b, .int .u8 c, .int .u8 d, .int .u8 e] 5)).ownsRow base 5 1 (.slice (some ⟨w.heap.size, 0, none⟩) 5 5) [a, b, c, d, e].length ([a, b, c, d, e].map (Value.int .u8)) :=
  World.ownsRow_lit w #[.int .u8 a, .int .u8 b, .int .u8 c, .int .u8 d, .int .u8 e] 5 hb (by decide) rfl
theorem five_bytes : M.Bytes [172, 2, 2, 97, 98] := by unfold M.Bytes; decide
set_option maxRecDepth 100000 in
theorem alive_is (w : World) : Calls Try.prog 7 #[] w fun e w' => e = .returned (.bool true) ∧ Below w.heap.size w w' := by
  go_enter Try.func7, Try.ntmps7
  go_wp2_with fail
  refine (new_is _).mono ?_
  rintro e w1 ⟨rfl, h1, b1⟩
  have H1 := Lib.hid h1
  have B1 := Lib.hid b1
  clear h1 b1
  go_wp2_with fail
  refine (wnum_is w.heap.size [] 300 _ H1.out (by omega) (by omega) (by simp)).mono ?_
  rintro e w2 ⟨⟨y, rfl⟩, h2, b2⟩
  have H2 := Lib.hid h2
  have B2 := Lib.hid (B1.out.trans b2)
  have L2 := Lib.hid (M.var_ten 300 (by omega) (by omega))
  clear h2 b2
  go_wp2_with fail
  refine (wname_is w.heap.size ([] ++ M.var 300) lAB _ H2.out lAB_len lAB_bytes (by have := L2.out; simp; omega)).mono ?_
  rintro e w3 ⟨⟨y, rfl⟩, h3, b3⟩
  rw [alive_bytes] at h3
  have H3 := Lib.hid h3
  have B3 := Lib.hid (B2.out.trans b3)
  clear h3 b3
  go_wp2_with fail
  refine (out_is w.heap.size [172, 2, 2, 97, 98] _ H3.out (by simp)).mono ?_
  rintro e w4 ⟨v4, rfl, h4, b4⟩
  have V4 := Lib.hid (h4.below (new_below w4 (.cells #[.int .u8 172, .int .u8 2, .int .u8 2, .int .u8 97, .int .u8 98] 5)))
  have V5 := Lib.hid (bytes_of_owns (owns_five w4 w4.heap.size (Nat.le_refl _) 172 2 2 97 98) five_bytes)
  have B4 := Lib.hid (step_ (step_ B3.out b4) (new_below w4 (.cells #[.int .u8 172, .int .u8 2, .int .u8 2, .int .u8 97, .int .u8 98] 5)))
  clear h4 b4
  go_wp2_with fail
  refine (same_any _ _ [172, 2, 2, 97, 98] _ (by simp) V4.out V5.out).mono ?_
  rintro e w5 ⟨rfl, b5⟩
  have B5 := Lib.hid (step_ B4.out b5)
  clear b5
  go_wp2_with fail
  refine (from_is (.slice none 0 0) [] _ (bytes_nil _) (by simp)).mono ?_
  rintro e w6 ⟨g, R, rfl, -, ⟨v, lv, hc, -, hlv, -⟩, b6⟩
  obtain rfl := hlv rfl
  have C6 := Lib.hid hc
  have B6 := Lib.hid (step_ B5.out b6)
  clear hc b6 hlv
  go_wp2_with fail
  refine (done_end g R v _ C6.out).mono ?_
  rintro e w7 ⟨rfl, rfl⟩
  go_wp2_with fail
  go_ret
  exact ⟨rfl, B6.out⟩
theorem ps_take {w : World} {G off cap k : Nat} {ps : List Pc} (hk : k ≤ ps.length) (hkc : k ≤ cap) (hG : G < w.heap.size) (hr : ∀ i (h : i < ps.length), w.rangeAt G (off + i * 13) ps[i].cells) (hok : ∀ p ∈ ps, p.Ok w) : PsAt w (.slice (some ⟨G, off, none⟩) k cap) (ps.take k) := by
  have hl : (ps.take k).length = k := by rw [List.length_take]; omega
  refine ⟨⟨_, _, by rw [hl], by rw [hl]; exact hkc, fun _ => ⟨G, off, rfl, hG, fun i hi => ?_⟩⟩, fun p hp => hok p (List.mem_of_mem_take hp)⟩
  rw [List.getElem_take]
  exact hr i (by omega)
/-- The law's answer. -/
def Holds_ (w : World) (e : Ending) (w' : World) : Prop := e = .returned (.bool true) ∧ Below w.heap.size w w'
theorem writes_nil (a : Option Addr) (cap : Nat) (w : World) : Calls Try.prog 3 #[.slice a 0 cap] w (Holds_ w) := by
  go_enter Try.func3, Try.ntmps3
  go_wp2_with fail
  refine (large_nil a cap _).mono ?_
  rintro e w1 ⟨rfl, rfl⟩
  go_wp2_with fail
  refine (new_is _).mono ?_
  rintro e w1 ⟨rfl, -, b1⟩
  have B1 := Lib.hid b1
  clear b1
  go_wp2_with fail
  refine wp_loop_rounds 1 ?_
  rw [rounds_succ]
  go_wp2_with fail
  refine (alive_is _).mono ?_
  rintro e w2 ⟨rfl, b2⟩
  have B2 := Lib.hid (step_ B1.out b2)
  clear b2
  go_wp2_with fail
  go_ret
  exact ⟨rfl, B2.out⟩
def WR (ps : List Pc) (w : World) (i : Value) (wr : World) : Prop := ∃ k : Nat, k ≤ ps.length ∧ i = .int .i64 k ∧ WrAt wr w.heap.size (encs (ps.take k)) ∧ Below w.heap.size w wr
set_option maxRecDepth 100000 in
theorem writes_some (G off cap : Nat) (ps : List Pc) (w : World) (hG : G < w.heap.size) (hcap : ps.length ≤ cap) (hr : Hid (∀ i (h : i < ps.length), w.rangeAt G (off + i * 13) ps[i].cells)) (hok : Hid (∀ p ∈ ps, p.Ok w)) :
    Calls Try.prog 3 #[.slice (some ⟨G, off, none⟩) ps.length cap] w (Holds_ w) := by
  go_enter Try.func3, Try.ntmps3
  go_wp2_with fail
  refine (large_some G off cap ps _ hr hok).mono ?_
  rintro e w1 ⟨rfl, rfl | ⟨rfl, hf⟩⟩
  · go_wp2_with fail
    refine (alive_is _).mono ?_
    rintro e w2 ⟨rfl, b2⟩
    have B2 := Lib.hid b2
    clear b2
    go_wp2_with fail
    go_ret
    exact ⟨rfl, B2.out⟩
  have HF := Lib.hid hf
  clear hf
  go_wp2_with fail
  refine (new_is _).mono ?_
  rintro e w1 ⟨rfl, h1, b1⟩
  have H1 := Lib.hid h1
  have B1 := Lib.hid b1
  clear h1 b1
  go_wp2_with fail
  go_loopw [4] (fun i wr => WR ps w i wr) (fun i _ => ps.length - (intOf i).toNat)
  case atStart => exact ⟨0, Nat.zero_le _, rfl, H1.out, B1.out⟩
  case round =>
    obtain ⟨k, hk, rfl, hw, hbel⟩ := hrel
    by_cases hlt : k < ps.length
    · have hp := hok.out _ (List.getElem_mem hlt)
      have HQ := Lib.hid (range_below (hr.out k hlt) hG hbel)
      have HP := Lib.hid hp
      have HB := Lib.hid (HF.out.2 _ (List.getElem_mem hlt))
      have HW := Lib.hid hw
      have HBel := Lib.hid hbel
      have HS := Lib.hid (encs_take ps k hlt)
      have HL1 := Lib.hid (encs_len (fun q hq => hok.out q (List.mem_of_mem_take hq)) (few_take HF.out k))
      have HT := Lib.hid (few_take HF.out k).1
      have HL2 := Lib.hid (encs_len (fun q hq => hok.out q (List.mem_of_mem_take hq)) (few_take HF.out (k + 1)))
      have HT2 := Lib.hid (few_take HF.out (k + 1)).1
      have b0 : (0 : Int) ≤ (k : Int) := by omega
      have b1 : (k : Int) < (ps.length : Int) := by omega
      have b2 : (k : Int) < 40 := by have := HF.out.1; omega
      have b3 : (0 : Int) ≤ (k : Int) + 1 := by omega
      have b4 : (k : Int) + 1 ≤ (cap : Int) := by omega
      have b5 : IntKind.i64.wrap ((k : Int) + 1) = (k : Int) + 1 := by rw [IntKind.wrap_i64]; omega
      clear hw hbel hp
      go_wp2_with (refine wpList_load_pc rfl _ rfl G (off + k * 13) ps[k] rfl HQ.out HP.out.ml ?_)
      refine (write_is w.heap.size _ ps[k] w _ HW.out HP.out HBel.out (Nat.le_refl _) (by have h1 := HL1.out; have h2 := HT.out; have h3 := HB.out; omega) (Nat.le_trans HB.out (by omega))).mono ?_
      rintro e w2 ⟨⟨y, rfl⟩, hw2, hb2⟩
      rw [← HS.out] at hw2
      have H2 := Lib.hid hw2
      have B2 := Lib.hid (HBel.out.trans hb2)
      clear hw2 hb2
      go_wp2_with fail
      go_region_held3 (fun _ => True) (trivial) (first
        | (go_at_call 11; refine (out_is w.heap.size _ _ (H2.out.below (Below.refl _ _).drew) (by have h1 := HL2.out; have h2 := HT2.out; omega)).mono ?_; rintro e w3 ⟨v3, rfl, hv3, hb3⟩; have V3 := Lib.hid hv3; have B3 := Lib.hid (step_ B2.out (undrew hb3)); have H3 := Lib.hid (H2.out.below (undrew hb3)); clear hv3 hb3)
        | (go_at_call 12; refine (all_is _ (ps.take (k + 1)) _ (ps_take (by omega) (by omega) (Nat.lt_of_lt_of_le hG B3.out.size) (fun i hi => range_below (hr.out i hi) hG B3.out) (fun q hq => (hok.out q hq).below B3.out)) (few_take HF.out (k + 1))).mono ?_; rintro e w4 ⟨v4, rfl, hv4, hb4⟩; have V4 := Lib.hid hv4; have U3 := Lib.hid (V3.out.below hb4); have B4 := Lib.hid (step_ B3.out hb4); have H4 := Lib.hid (H3.out.below hb4); clear hv4 hb4)
        | (go_at_call 10; refine (same_any _ _ _ _ (by have h1 := HL2.out; have h2 := HT2.out; omega) U3.out V4.out).mono ?_; rintro e w5 ⟨rfl, hb5⟩; have B5 := Lib.hid (step_ B4.out hb5); have H5 := Lib.hid (H4.out.below hb5); clear hb5))
      go_wp2
      go_roundw
      case rel => exact ⟨k + 1, by omega, by go_num, H5.out, B5.out⟩
      case measure => simp [intOf]; omega
    · have HBel := Lib.hid hbel
      clear hbel
      go_wp2_with fail
      refine (alive_is _).mono ?_
      rintro e w2 ⟨rfl, b2⟩
      have B2 := Lib.hid (step_ HBel.out b2)
      clear b2
      go_wp2_with fail
      go_ret
      exact ⟨rfl, B2.out⟩
theorem wireWrites_any (v : Value) (ps : List Pc) (w : World) (h : PsAt w v ps) : Calls Try.prog 3 #[v] w (Holds_ w) := by
  obtain ⟨⟨a, cap, rfl, hc, h0⟩, hok⟩ := h
  by_cases hp : 0 < ps.length
  · obtain ⟨G, off, rfl, hG, hr⟩ := h0 hp
    exact writes_some G off cap ps w hG hc (Lib.hid hr) (Lib.hid hok)
  · obtain rfl : ps = [] := List.eq_nil_of_length_eq_zero (by omega)
    exact writes_nil a cap w
end Go.Proofs.Ytieeggdmmnhbjaa
