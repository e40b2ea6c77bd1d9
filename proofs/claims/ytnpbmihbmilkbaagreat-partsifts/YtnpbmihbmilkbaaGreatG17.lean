/- The contracts of Low, Part and Size, and of Power of the reference: they only compute. The contracts of Var of package pack and of what it calls. append onto a row of bytes of the call's own; the contract of Var of the reference. Names as values; the worlds later than a world; the laws of a region that draws its order and whose calls make memory. The contract of Unvar of the reference. The contracts of New, add, Num, Byte, Name, Bytes and Out of a writer, of Clone at bytes, and of From. The contracts of Name and Out of a writer, of Clone at bytes, and of From. Pieces as values and in memory; the contracts of Large of the reference and of write of the law. Loads and stores of whole pieces and of the names in them; the contract of write of the law. The contract of read of the law. The contracts of Out of a piece and of All of the reference. What was written of a piece is read as it was. The reads of a key one behind the other, each behind the error of those ahead of it, come to what a key's read is. The contracts of need, readFields and Read of package key. -/
import Derived.Test.YtnpbmihbmilkbaaGreatG16
import Derived.Test.YtnpbmihbmilkbaaGreatProg
import Derived.WalkKit
import Derived.WalkSpells
import Derived.WalkLawsBesides
import Derived.Lib.Hide
import Derived.Deep.QuietTactic
import Derived.BigQuiet
import Derived.Laws.AppendOwn
import Derived.Laws.AppendOwnNone
import Derived.OwnWalk
import Derived.Deep.WholeRow
import Derived.ChangeKeysEq
import Derived.Laws.CopyOwn
import Derived.Laws.Rows
import Derived.Lib.ConvBytes
import Derived.Lib.AppendStr
import Derived.Lib.SliceRun
namespace Go.Proofs.YtnpbmihbmilkbaaGreat
open Go.RowKit
theorem low_is (x n r : Int) (w : World) (h0 : 0 ≤ x) (h1 : x < 18446744073709551616) (hr : Hid (lo x n = r)) :
    Calls Tryz.prog 167 #[.int .u64 x, .int .i64 n] w fun e w' => e = .returned (.int .u64 r) ∧ w = w' := by
  by_cases hn : n < 1
  · have H := Lib.hid (show lo x n = 0 by unfold lo; rw [if_pos hn])
    go_enter Tryz.func167, Tryz.ntmps167
    go_wp2
    go_ret
    exact ⟨ret_int (H.out.symm.trans hr.out), rfl⟩
  · by_cases hn2 : 64 ≤ n
    · have H := Lib.hid (show lo x n = x by unfold lo; rw [if_neg hn, if_pos (by omega)])
      go_enter Tryz.func167, Tryz.ntmps167
      go_wp2
      go_ret
      exact ⟨ret_int (H.out.symm.trans hr.out), rfl⟩
    · have H := Lib.hid (low_spell x n h0 h1 (by omega) (by omega))
      have hn3 : 1 ≤ n := by omega
      have hn4 : n < 64 := by omega
      go_enter Tryz.func167, Tryz.ntmps167
      go_wp2
      go_ret
      exact ⟨ret_int (H.out.trans hr.out), rfl⟩
theorem power_is (n : Nat) (r : Int) (w : World) (h : n < 64) (hr : Hid ((2 : Int) ^ n = r)) :
    Calls Tryz.prog 45 #[.int .i64 n] w fun e w' => e = .returned (.int .u64 r) ∧ w = w' := by
  go_enter Tryz.func45, Tryz.ntmps45
  go_wp2
  go_loop [3, 4] (fun p i => ∃ (k : Nat) (v : Int), k ≤ n ∧ i = .int .i64 k ∧ p = .int .u64 v ∧ Hid ((2 : Int) ^ k = v)) (fun _ i => n - (intOf i).toNat)
  case atStart => exact ⟨0, 1, Nat.zero_le _, rfl, rfl, Lib.hid rfl⟩
  case round =>
    obtain ⟨k, v, hk, rfl, rfl, hv⟩ := hrel
    by_cases hlt : k < n
    · have hv2 : Hid ((2 : Int) ^ (k + 1) = IntKind.u64.wrap (v * 2)) := Lib.hid (by
        rw [← hv.out, IntKind.wrap_u64, ← Int.pow_succ]; have := pow_lt (k + 1) (by omega); have h2 := pow_pos (k + 1); omega)
      go_wp2
      go_round
      case rel => exact ⟨k + 1, _, by omega, by go_num, rfl, hv2⟩
      case measure => simp [intOf]; omega
    · obtain rfl : k = n := by omega
      go_wp2
      go_ret
      exact ⟨ret_int (hv.out.symm.trans hr.out), rfl⟩
theorem partb_is (x f n r : Int) (w : World) (h0 : 0 ≤ x) (h1 : x < 18446744073709551616) (hr : Hid (part x f n = r)) :
    Calls Tryz.prog 162 #[.int .u64 x, .int .i64 f, .int .i64 n] w fun e w' => e = .returned (.int .u64 r) ∧ w = w' := by
  by_cases hf : f < 0
  · have H := Lib.hid (show lo x n = r by rw [← hr.out, part_small x f n (by omega), max_low f (by omega)]; simp)
    go_enter Tryz.func162, Tryz.ntmps162
    go_wp2_with fail
    refine (low_is x n r _ h0 h1 H).mono ?_
    rintro e w' ⟨rfl, rfl⟩
    go_wp2_with fail
    go_ret
    exact ⟨rfl, rfl⟩
  · have hf0 : 0 ≤ f := by omega
    by_cases hf2 : f ≤ 64
    · have H := Lib.hid (show lo (x / 2 ^ f.toNat) n = r by
        rw [← hr.out]
        by_cases h64 : f = 64
        · subst h64
          rw [part_big x 64 n (by omega), show x / 2 ^ (64 : Int).toNat = 0 from big_div x h0 h1, lo_zero]
        · rw [part_small x f n (by omega), max_up f (by omega)])
      have hd := div_U64 x f.toNat h0 h1
      go_enter Tryz.func162, Tryz.ntmps162
      go_wp2_with fail
      refine (low_is _ n r _ hd.1 hd.2 H).mono ?_
      rintro e w' ⟨rfl, rfl⟩
      go_wp2_with fail
      go_ret
      exact ⟨rfl, rfl⟩
    · have hmin : min f.toNat 64 = 64 := by omega
      have H := Lib.hid (show lo 0 n = r by rw [← hr.out, part_big x f n (by omega), lo_zero])
      have hd := Lib.hid (big_div x h0 h1)
      go_enter Tryz.func162, Tryz.ntmps162
      go_wp2_with fail
      refine (low_is (x / 18446744073709551616) n r _ (by omega) (by omega) (Lib.hid (by rw [hd.out]; exact H.out))).mono ?_
      rintro e w' ⟨rfl, rfl⟩
      go_wp2_with fail
      go_ret
      exact ⟨rfl, rfl⟩
theorem size_is (x : Int) (n : Nat) (w : World) (h0 : 0 ≤ x) (h1 : x < 18446744073709551616) (hn : Hid ((M.var x).length = n)) (hn1 : n ≤ 10) :
    Calls Tryz.prog 159 #[.int .u64 x] w fun e w' => e = .returned (.int .i64 n) ∧ w = w' := by
  have HL := Lib.hid ((M.var_left x h0).symm.trans hn.out)
  go_enter Tryz.func159, Tryz.ntmps159
  go_wp2
  go_loop [0, 3] (fun t g => ∃ (y : Int) (k : Nat), 0 ≤ y ∧ y < 18446744073709551616 ∧ t = .int .u64 y ∧ g = .int .i64 k ∧ k ≤ 10 ∧ Hid (k + M.left y = n)) (fun t _ => (intOf t).toNat)
  case atStart => exact ⟨x / 128, 1, by omega, by omega, rfl, rfl, by omega, HL⟩
  case round =>
    obtain ⟨y, k, hy0, hy1, rfl, rfl, hk, hrel⟩ := hrel
    by_cases hlt : 0 < y
    · have hs := Lib.hid (M.left_step y hlt)
      have hnext : Hid (k + 1 + M.left (y / 128) = n) := Lib.hid (by have := hrel.out; have h2 := hs.out; omega)
      have hk2 : k + 1 ≤ 10 := by have := hnext.out; omega
      go_wp2
      go_round
      case rel => exact ⟨y / 128, k + 1, by omega, by omega, rfl, by go_num, hk2, hnext⟩
      case measure => simp [intOf]; omega
    · obtain rfl : y = 0 := by omega
      go_wp2
      go_ret
      exact ⟨ret_int (by have := hrel.out; simp [M.left] at this; omega), rfl⟩
end Go.Proofs.YtnpbmihbmilkbaaGreat
namespace Go.Proofs.YtnpbmihbmilkbaaGreat
open Go.RowKit
theorem var1_is (g s i n : Nat) (x r : Int) (w : World) (h0 : 0 ≤ x) (h1 : x < 18446744073709551616) (hi : i < n) (hn : n ≤ 10) (hc : w.cell? ⟨g, 0, none⟩ = some (.int .u64 x)) (hs : w.cell? ⟨s, 0, none⟩ = some (.int .i64 n))
    (hr : Hid ((x / 2 ^ (7 * i) % 128 + if i + 1 < n then 128 else 0) = r)) :
    Calls Tryz.prog 161 #[.int .i64 i, .pointer (some ⟨g, 0, none⟩), .pointer (some ⟨s, 0, none⟩)] w fun e w' => e = .returned (.int .u8 r) ∧ w = w' := by
  obtain ⟨q, hq⟩ : ∃ q, x / 2 ^ (7 * i) % 128 = q := ⟨_, rfl⟩
  rw [hq] at hr
  have hq0 : 0 ≤ q := by omega
  have hq1 : q < 128 := by omega
  have HP := Lib.hid ((part7 x i (by omega)).trans hq)
  clear hq
  by_cases hlt : i + 1 < n
  · have HR := Lib.hid (show bits .or .u8 q 128 = r by rw [or_more q hq0 hq1, ← hr.out, if_pos hlt])
    have hl2 : (i : Int) < (n : Int) - 1 := by omega
    go_enter Tryz.func161, Tryz.ntmps161
    go_wp2_with fail
    refine (partb_is x (7 * (i : Int)) 7 q _ h0 h1 HP).mono ?_
    rintro e w' ⟨rfl, rfl⟩
    go_wp2_with fail
    go_ret
    exact ⟨ret_int HR.out, rfl⟩
  · have HR := Lib.hid (show q = r by rw [← hr.out, if_neg hlt]; omega)
    have hl2 : ¬ (i : Int) < (n : Int) - 1 := by omega
    go_enter Tryz.func161, Tryz.ntmps161
    go_wp2_with fail
    refine (partb_is x (7 * (i : Int)) 7 q _ h0 h1 HP).mono ?_
    rintro e w' ⟨rfl, rfl⟩
    go_wp2_with fail
    go_ret
    exact ⟨ret_int HR.out, rfl⟩
set_option maxRecDepth 100000 in
theorem fillVar (g s n : Nat) (x : Int) (w : World) (h0 : 0 ≤ x) (h1 : x < 18446744073709551616) (hv : Hid ((M.var x).length = n)) (hn : n ≤ 10) (hc : Hid (w.cell? ⟨g, 0, none⟩ = some (.int .u64 x))) (hs : Hid (w.cell? ⟨s, 0, none⟩ = some (.int .i64 n))) (hg : g < w.heap.size) (hsg : s < w.heap.size) :
    Calls Tryz.prog 160 #[.int .i64 n, .func (.func 161) #[] #[.pointer (some ⟨g, 0, none⟩), .pointer (some ⟨s, 0, none⟩)]] w fun e w' => ∃ v, e = .returned v ∧ BytesAt w' v (M.var x) ∧ Below w.heap.size w w' := by
  have hmk := fun W => run_make_row' (P := Tryz.prog) 74 5 (.int .u8 0) 1 Tryz.underlying74 info5 rfl .i64 .i64 n (by omega) (by omega) W
  have hbs := Lib.hid (M.var_bytes x h0)
  have hat := Lib.hid (M.var_at x h0)
  generalize M.var x = l at *
  go_enter Tryz.func160, Tryz.ntmps160
  go_wp2_with fail
  clear hmk
  obtain rfl := hv.out
  clear hv
  go_loopw [11] (fun i wr => FR l w i wr) (fun i _ => l.length - (intOf i).toNat)
  case atStart => exact ⟨0, Nat.zero_le _, rfl, (World.rowIs_made w (.int .u8 0) l.length 5).congr (fun i _ => by simp), (Below.refl _ _).alloc (Nat.le_refl _) _⟩
  case round =>
    obtain ⟨k, hk, rfl, hrow, hbel⟩ := hrel
    by_cases hlt : k < l.length
    · have hcx : wr.cell? ⟨g, 0, none⟩ = some (.int .u64 x) := (hbel.cell (p := ⟨g, 0, none⟩) hg).trans hc.out
      have hcs : wr.cell? ⟨s, 0, none⟩ = some (.int .i64 l.length) := (hbel.cell (p := ⟨s, 0, none⟩) hsg).trans hs.out
      obtain ⟨c, hcv⟩ : ∃ c, l[k] = c := ⟨_, rfl⟩
      have hcr := Lib.hid ((hat.out k hlt).symm.trans hcv)
      have hcd := Lib.hid (show l.getD k 0 = c by rw [List.getD_eq_getElem?_getD, List.getElem?_eq_getElem hlt, hcv]; rfl)
      have hcell := hrow.cell hlt
      have hfro := hrow.frozen k
      have HR := Lib.hid hrow
      clear hrow hcv
      go_wp2_with fail
      refine (var1_is g s k l.length x c _ h0 h1 hlt hn hcx hcs hcr).mono ?_
      rintro e w' ⟨rfl, rfl⟩
      go_wp2_with fail
      go_roundw
      case rel => exact ⟨k + 1, by omega, by go_num, row_step HR.out hcd.out, hbel.setCell (Nat.le_refl _) _⟩
      case measure => simp [intOf]; omega
    · obtain rfl : k = l.length := by omega
      have HR := Lib.hid hrow
      clear hrow
      go_wp2_with fail
      go_ret
      exact ⟨_, rfl, row_bytes HR.out hbs.out (fun j hj => by rw [if_pos hj]), hbel⟩
theorem var_is (x : Int) (w : World) (h0 : 0 ≤ x) (h1 : x < 18446744073709551616) : Calls Tryz.prog 140 #[.int .u64 x] w (GivesBytes w (M.var x)) := by
  obtain ⟨n, hn⟩ : ∃ n, (M.var x).length = n := ⟨_, rfl⟩
  have hn10 : n ≤ 10 := by rw [← hn]; exact M.var_ten x h0 h1
  have HN := Lib.hid hn
  clear hn
  go_enter Tryz.func140, Tryz.ntmps140
  go_wp2_with fail
  refine (size_is x n _ h0 h1 HN hn10).mono ?_
  rintro e w' ⟨rfl, rfl⟩
  go_wp2_with fail
  refine (fillVar w.heap.size (w.heap.size + 1) n x _ h0 h1 HN hn10 (Lib.hid (by simp)) (Lib.hid (by simp)) (by simp; omega) (by simp)).mono ?_
  rintro e w' ⟨v, rfl, hv, hb⟩
  have HB := Lib.hid hb
  have HV := Lib.hid hv
  clear hb hv
  go_wp2_with fail
  go_ret
  exact ⟨_, rfl, HV.out, (((Below.refl w.heap.size w).alloc (Nat.le_refl _) _).alloc (by simp) _).trans (HB.out.mono (by simp; omega))⟩
end Go.Proofs.YtnpbmihbmilkbaaGreat
namespace Go.Proofs.YtnpbmihbmilkbaaGreat
open Go.RowKit
set_option maxRecDepth 100000 in
theorem refVar_own (x : Int) (h0 : 0 ≤ x) : ∀ w : World, x < 18446744073709551616 → Calls Tryz.prog 60 #[.int .u64 x] w (GivesOwn w (M.var x)) := by
  refine M.var_ind (P := fun x => ∀ w : World, x < 18446744073709551616 → Calls Tryz.prog 60 #[.int .u64 x] w (GivesOwn w (M.var x))) ?_ ?_ x h0
  · intro x h0 hlt w h1
    rw [M.var_lt x h0 hlt]
    have ho := Lib.hid (owns_one w x w.heap.size (Nat.le_refl _))
    go_enter Tryz.func60, Tryz.ntmps60
    go_wp2_with fail
    go_ret
    exact ⟨_, rfl, ho.out, (Below.refl _ _).alloc (Nat.le_refl _) _⟩
  · intro x hge ih w h1
    have hlen := M.var_ten (x / 128) (by omega) (by omega)
    have hbs := Lib.hid (M.var_bytes (x / 128) (by omega))
    have ih' := Lib.hid ih
    clear ih
    rw [M.var_ge x hge]
    generalize M.var (x / 128) = l at *
    have ho := Lib.hid (owns_one w (128 + x % 128) w.heap.size (Nat.le_refl _))
    go_enter Tryz.func60, Tryz.ntmps60
    go_wp2_with fail
    refine (ih'.out _ (by omega)).mono ?_
    rintro e w2 ⟨v2, rfl, hown2, hb2⟩
    have HO := Lib.hid (owns_below ho.out hb2)
    have HB := Lib.hid (bytes_of_owns hown2 hbs.out)
    have hsz := hb2.size
    simp at hsz
    have HB2 := Lib.hid hb2
    clear hown2 hb2
    go_wp2_with ((at_builtin; refine app_bytes _ rfl (.tmp 12) (.tmp 15) rfl w.heap.size _ _ [128 + x % 128] l rfl HO.out rfl HB.out (by simp; omega) (by omega) ?_; intro v' w1 hown1 hbel1; have HO1 := Lib.hid hown1; clear hown1))
    go_ret
    exact ⟨_, rfl, HO1.out, (((Below.refl w.heap.size w).alloc (Nat.le_refl _) _).trans (HB2.out.mono (by simp))).trans hbel1⟩
theorem refVar_is (x : Int) (w : World) (h0 : 0 ≤ x) (h1 : x < 18446744073709551616) : Calls Tryz.prog 60 #[.int .u64 x] w (GivesBytes w (M.var x)) :=
  (refVar_own x h0 w h1).mono fun _ _ ⟨v, he, ho, hb⟩ => ⟨v, he, bytes_of_owns ho (M.var_bytes x h0), hb⟩
end Go.Proofs.YtnpbmihbmilkbaaGreat
namespace Go.Proofs.YtnpbmihbmilkbaaGreat
open Go.RowKit
instance (W : World) : Nonempty (Later W) := ⟨⟨W, Below.refl _ _⟩⟩
end Go.Proofs.YtnpbmihbmilkbaaGreat
namespace Go.Proofs.YtnpbmihbmilkbaaGreat
open Go.RowKit
end Go.Proofs.YtnpbmihbmilkbaaGreat
namespace Go.Proofs.YtnpbmihbmilkbaaGreat
open Go.RowKit
/-- A writer that has written the bytes l. -/
def WrAt (w : World) (g : Nat) (l : List Int) : Prop := ∃ v, Blk w g 152 [v] ∧ w.ownsRow (g + 1) 5 1 v l.length (l.map (Value.int .u8)) ∧ M.Bytes l
theorem WrAt.below {w w' : World} {g : Nat} {l : List Int} (h : WrAt w g l) (hb : Below w.heap.size w w') : WrAt w' g l := by
  obtain ⟨v, h1, h2, h3⟩ := h
  exact ⟨v, h1.below hb, owns_below h2 hb, h3⟩
theorem WrAt.lt {w : World} {g : Nat} {l : List Int} (h : WrAt w g l) : g < w.heap.size := by
  obtain ⟨v, h1, _⟩ := h
  exact h1.lt
theorem new_is (w : World) : Calls Tryz.prog 103 #[] w fun r w' => r = .returned (.pointer (some ⟨w.heap.size, 0, none⟩)) ∧ WrAt w' w.heap.size [] ∧ Below w.heap.size w w' := by
  go_enter Tryz.func103, Tryz.ntmps103
  go_wp2_with fail
  go_ret
  exact ⟨rfl, ⟨_, blk_alloc w 152 [.slice none 0 0], owns_none _ _, fun x hx => by cases hx⟩, new_below w _⟩
end Go.Proofs.YtnpbmihbmilkbaaGreat
namespace Go.Proofs.YtnpbmihbmilkbaaGreat
open Go.RowKit
set_option maxRecDepth 100000 in
theorem cloneb_is (v : Value) (l : List Int) (w : World) (h : BytesAt w v l) (hl : l.length ≤ 30000) : Calls Tryz.prog 126 #[v] w (GivesBytes w l) := by
  have HV := Lib.hid (h.below (new_below w (.cells #[] 5)))
  have HY := Lib.hid h.bytes
  have HL := Lib.hid hl
  clear hl
  obtain ⟨a, cap, rfl, hcap, -, hc⟩ := h
  have HE := Lib.hid (owns_empty w w.heap.size (Nat.le_refl _))
  have hq : ∀ (W : World) (a : Option Addr) (n c : Nat), (binOp .eql 74 (.slice a n c) (.slice none 0 0)).run Tryz.prog W = .ok (.bool a.isNone) W := fun W a n c => Lib.run_eql_slice_nil W _ _ _ _ _ _ _ Tryz.underlying74
  cases a with
  | none =>
    have h0 : l = [] := by
      cases l with
      | nil => rfl
      | cons c r => obtain ⟨g, off, ha, _⟩ := hc (by simp); cases ha
    subst h0
    obtain rfl := hcap.2 rfl
    clear hc hcap
    go_enter Tryz.func126, Tryz.ntmps126
    go_wp2_with fail
    go_ret
    exact ⟨_, rfl, bytes_nil _, Below.refl _ _⟩
  | some ad =>
    clear hc hcap
    go_enter Tryz.func126, Tryz.ntmps126
    go_wp2_with ((at_builtin; refine app_bytes _ rfl (.tmp 5) (.tmp 6) rfl w.heap.size _ _ [] l rfl HE.out rfl HV.out (by simpa using HL.out) (by simp) ?_; intro v1 w1 hown1 hbel1; have V1 := Lib.hid (bytes_of_owns hown1 (show M.Bytes ([] ++ l) from HY.out)); have B1 := Lib.hid hbel1; clear hown1 hbel1))
    go_ret
    exact ⟨_, rfl, V1.out, (new_below w _).trans B1.out⟩
theorem out_is (g : Nat) (l : List Int) (w : World) (h : WrAt w g l) (hl : l.length ≤ 30000) : Calls Tryz.prog 105 #[.pointer (some ⟨g, 0, none⟩)] w (GivesBytes w l) := by
  obtain ⟨v, hb, hown, hby⟩ := h
  have c0 := hb.cell (i := 0) rfl
  have HV := Lib.hid (bytes_of_owns hown hby)
  clear hb hown hby
  go_enter Tryz.func105, Tryz.ntmps105
  go_wp2_with fail
  refine (cloneb_is v l _ HV.out hl).mono ?_
  rintro r w1 ⟨v1, rfl, hv, hb⟩
  have V1 := Lib.hid hv
  have B1 := Lib.hid hb
  clear hv hb
  go_wp2_with fail
  go_ret
  exact ⟨_, rfl, V1.out, B1.out⟩
end Go.Proofs.YtnpbmihbmilkbaaGreat
namespace Go.Proofs.YtnpbmihbmilkbaaGreat
open Go.RowKit
end Go.Proofs.YtnpbmihbmilkbaaGreat
namespace Go.Proofs.YtnpbmihbmilkbaaGreat
open Go.RowKit
theorem Blk.nm {w : World} {g : Nat} {p : Pc} (h : Blk w g 93 p.cells) (hm : p.m.length = 8) : w.rangeAt g 3 (p.m.map (Value.int .u8)) := by
  have := range_name h.range hm
  rwa [Nat.zero_add] at this
end Go.Proofs.YtnpbmihbmilkbaaGreat
namespace Go.Proofs.YtnpbmihbmilkbaaGreat
open Go.RowKit
/- CASES -/
namespace M
end M
end Go.Proofs.YtnpbmihbmilkbaaGreat
namespace Go.Proofs.YtnpbmihbmilkbaaGreat
open Go.RowKit
set_option maxRecDepth 100000 in
theorem out2 (p : Pc) (w : World) (hp : p.Ok w) (hd : p.d = 2) : Calls Tryz.prog 61 #[.agg p.cells.toArray] w (GivesBytes w p.enc) := by
  have q := blk_alloc w 93 p.cells
  have c0 := q.cell (cells0 p)
  have HQ := Lib.hid (q.nm hp.ml)
  have B0 := Lib.hid (new_below w (.cells p.cells.toArray 93))
  have HP := Lib.hid hp
  have HE := Lib.hid (show ((M.text p.m).length : Int) :: M.text p.m = p.enc by unfold Pc.enc M.enc; rw [if_neg (by omega), if_neg (by omega), if_pos hd])
  obtain ⟨s, hs⟩ : ∃ s, s = strOfNums (M.text p.m) := ⟨_, rfl⟩
  have hsz : s.size = (M.text p.m).length := by rw [hs, strOfNums_size]
  have ht : (M.text p.m).length ≤ 8 := hp.ml ▸ M.text_len p.m
  have HS := Lib.hid hs
  have HT := Lib.hid (M.text_bytes hp.mb)
  have HY := Lib.hid (show M.Bytes (((M.text p.m).length : Int) :: M.text p.m) from fun y hy => by
    rcases List.mem_cons.1 hy with rfl | hy
    · omega
    · exact HT.out y hy)
  clear q hp hs
  go_enter Tryz.func61, Tryz.ntmps61
  go_wp2_with (refine wpList_load_nm rfl _ rfl w.heap.size 3 p.m rfl HQ.out HP.out.ml ?_)
  refine (refText_is p.m s _ HP.out.ml HS).mono ?_
  rintro r w1 ⟨rfl, c1⟩
  have B1 := Lib.hid (step_ B0.out c1)
  have W1 := Lib.hid (owns_one w1 ((M.text p.m).length : Int) w1.heap.size (Nat.le_refl _))
  clear c1
  go_wp2_with ((at_builtin; refine app_text _ rfl (.tmp 24) (.tmp 25) rfl w1.heap.size _ s [((M.text p.m).length : Int)] (M.text p.m) rfl W1.out rfl HS.out HT.out (by simp; omega) (by simp) ?_; intro v2 w2 hown2 hbel2; have V2 := Lib.hid (bytes_of_owns hown2 HY.out); have B2 := Lib.hid (step_ B1.out ((new_below w1 _).trans hbel2)); clear hown2 hbel2))
  go_ret
  exact ⟨_, rfl, HE.out ▸ V2.out, B2.out⟩
end Go.Proofs.YtnpbmihbmilkbaaGreat
namespace Go.Proofs.YtnpbmihbmilkbaaGreat
open Go.RowKit
end Go.Proofs.YtnpbmihbmilkbaaGreat
namespace Go.Proofs.YtnpbmihbmilkbaaGreat
open M
/-- An error and what can still be read, behind a check. -/
def fs (b : Bool) (x : Int) (p : Int × List Int) : Int × List Int := if b = true then p else (kept p.1 x, [])
theorem fs_bad {b : Bool} {x e : Int} (he : e ≠ 0) : fs b x (e, []) = (e, []) := by
  unfold fs; split
  · rfl
  · simp only [kept]; rw [if_neg he]
def s1 (l : List Int) : Got Int := gate 0 (rByte l)
def p1 (l : List Int) : Int × List Int := fs (sortB ((s1 l).val 0)) 3 ((s1 l).err, (s1 l).rst)
def s2 (l : List Int) : Got Int := gate (p1 l).1 (rNum 65535 (p1 l).2)
def s3 (l : List Int) : Got (List Int) := gate (s2 l).err (rName (s2 l).rst)
def p3 (l : List Int) : Int × List Int := fs ((s3 l).val zero8 != zero8) 3 ((s3 l).err, (s3 l).rst)
def s4 (l : List Int) : Got Int := gate (p3 l).1 (rByte (p3 l).2)
def p4 (l : List Int) : Int × List Int := fs (decide ((s4 l).val 0 < 16)) 2 ((s4 l).err, (s4 l).rst)
def s5 (l : List Int) : Got Int := gate (p4 l).1 (rNum 4294967295 (p4 l).2)
def p5 (l : List Int) : Int × List Int := fs (decide (0 < (s5 l).val 0)) 3 ((s5 l).err, (s5 l).rst)
theorem d5 {l : List Int} {e : Int} (he : e ≠ 0) (h : p4 l = (e, [])) : p5 l = (e, []) := by
  have h5 : s5 l = .bad e := by unfold s5; rw [h]; exact gate_bad he _
  unfold p5; rw [h5]; exact fs_bad he
theorem d4 {l : List Int} {e : Int} (he : e ≠ 0) (h : p3 l = (e, [])) : p4 l = (e, []) := by
  have h5 : s4 l = .bad e := by unfold s4; rw [h]; exact gate_bad he _
  unfold p4; rw [h5]; exact fs_bad he
theorem d3 {l : List Int} {e : Int} (he : e ≠ 0) (h : s2 l = .bad e) : p3 l = (e, []) := by
  have h5 : s3 l = .bad e := by unfold s3; rw [h]; exact gate_bad he _
  unfold p3; rw [h5]; exact fs_bad he
theorem d2 {l : List Int} {e : Int} (he : e ≠ 0) (h : p1 l = (e, [])) : s2 l = .bad e := by unfold s2; rw [h]; exact gate_bad he _
/-- What the reads come to: of a note, of a tag, of the others. -/
structure Fin (l : List Int) (p : Int × List Int) (k : Ky) : Prop where
  err : p.1 = (rKey l).err
  rst : p.2 = (rKey l).rst
  val : p.1 = 0 → k = (rKey l).val kzero
/-- What comes of the sort. -/
theorem first (l : List Int) : (∃ e, e ≠ 0 ∧ p1 l = (e, []) ∧ rKey l = .bad e ∧ (s1 l).val 0 ≠ 4) ∨
    ∃ s l1, rByte l = .got s l1 ∧ (s1 l).val 0 = s ∧ 1 ≤ s ∧ s ≤ 4 ∧ p1 l = (0, l1) := by
  cases h : rByte l with
  | bad e =>
    have h1 : s1 l = .bad e := by unfold s1; rw [h]; rfl
    have he : e = 4 := by cases l with
      | nil => injection h with h; omega
      | cons c r => cases h
    subst he
    exact .inl ⟨4, by decide, by unfold p1; rw [h1]; exact fs_bad (by decide), by unfold rKey; rw [h], by rw [h1]; decide⟩
  | got s l1 =>
    have h1 : s1 l = .got s l1 := by unfold s1; rw [h]; rfl
    by_cases hs : s < 1 ∨ 4 < s
    · have hb : sortB s = false := by unfold sortB; rcases hs with hs | hs <;> simp <;> omega
      refine .inl ⟨3, by decide, ?_, ?_, ?_⟩
      · unfold p1; rw [h1]; show fs (sortB s) 3 (0, l1) = _; rw [hb]; rfl
      · unfold rKey; rw [h]; simp only; rw [if_pos hs]
      · rw [h1]; show s ≠ 4; omega
    · have hb : sortB s = true := by unfold sortB; simp; omega
      refine .inr ⟨s, l1, rfl, by rw [h1]; rfl, by omega, by omega, ?_⟩
      unfold p1; rw [h1]; show fs (sortB s) 3 (0, l1) = _; rw [hb]; rfl
end Go.Proofs.YtnpbmihbmilkbaaGreat
namespace Go.Proofs.YtnpbmihbmilkbaaGreat
open Go.RowKit
/- FIELDS -/
end Go.Proofs.YtnpbmihbmilkbaaGreat
