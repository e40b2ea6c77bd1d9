/- The walk of MixApart. -/
import Derived.Test.YtmdolblcffnkcaaLaws
import Derived.Test.YtmdolblcffnkcaaApart
namespace Go.Proofs.Ytmdolblcffnkcaa
open Go.RowKit

set_option maxRecDepth 100000 in
set_option maxHeartbeats 1000000 in
theorem mixApart_big (seed x y at_ g0 g1 g2 g3 g4 g5 g6 g7 : Int) (a : Option Addr) (len cap : Nat) (w : World) (h : 200 < len) :
    Calls Try.prog 5 #[.int .u64 seed, .agg #[.int .u64 x, .int .u64 y], changeV (.slice a len cap) at_ g0 g1 g2 g3 g4 g5 g6 g7] w fun e w' => e = .returned (.bool true) ∧ Below w.heap.size w w' := by
  have b1 : (200 : Int) < len := by omega
  go_enter Try.func5, Try.ntmps5
  go_wp2_with fail
  go_region
  generalize hV : World.drew _ = V
  have hB := Lib.hid (start_below hV.symm)
  clear hV
  go_wp2_with fail
  refine (alive_is _).mono ?_
  rintro e w3 ⟨rfl, b3⟩
  go_wp2_with fail
  go_ret
  exact ⟨rfl, Below.on hB.out (Nat.le_refl _) b3⟩
set_option maxRecDepth 100000 in
set_option maxHeartbeats 1000000 in
theorem mixApart_neg (seed x y at_ g0 g1 g2 g3 g4 g5 g6 g7 : Int) (a : Option Addr) (len cap : Nat) (w : World) (h : len ≤ 200) (hs : U64 seed) (hx : U64 x) (hy : U64 y) (hat : at_ < 0) :
    Calls Try.prog 5 #[.int .u64 seed, .agg #[.int .u64 x, .int .u64 y], changeV (.slice a len cap) at_ g0 g1 g2 g3 g4 g5 g6 g7] w fun e w' => e = .returned (.bool true) ∧ Below w.heap.size w w' := by
  obtain ⟨a1, ha1⟩ : ∃ r, wordI seed x = r := ⟨_, rfl⟩
  obtain ⟨a2, ha2⟩ : ∃ r, wordI seed y = r := ⟨_, rfl⟩
  obtain ⟨a3, ha3⟩ : ∃ r, wordI x seed = r := ⟨_, rfl⟩
  obtain ⟨a4, ha4⟩ : ∃ r, wordI y seed = r := ⟨_, rfl⟩
  obtain ⟨t, hxy⟩ : ∃ t : Bool, (x == y) = t := ⟨_, rfl⟩
  have h12 : (a1 == a2) = t := by rw [← hxy, ← ha1, ← ha2]; exact word_tells seed x y hs hx hy
  have h34 : (a3 == a4) = t := by rw [← hxy, ← ha3, ← ha4]; exact word_tells2 seed x y hs hx hy
  have k1 := Lib.hid ha1
  have k2 := Lib.hid ha2
  have k3 := Lib.hid ha3
  have k4 := Lib.hid ha4
  clear ha1 ha2 ha3 ha4
  have b200 : ¬ (200 : Int) < len := by omega
  go_enter Try.func5, Try.ntmps5
  go_wp2_with fail
  go_region
  generalize hV : World.drew _ = V
  have hB := Lib.hid (start_below hV.symm)
  have c0 := start_x hV.symm
  have c1 := start_y hV.symm
  have hG := Lib.hid (start_row hV.symm)
  clear hV
  go_wp2_with fail
  go_quiet (fail)
  clear c0 c1
  go_wp2_with fail
  refine (word_is seed x a1 _ hs hx k1).mono ?_
  rintro e w1 ⟨rfl, b1⟩
  have B1 := Lib.hid b1
  clear b1
  go_wp2_with fail
  refine (word_is seed y a2 _ hs hy k2).mono ?_
  rintro e w2 ⟨rfl, b2⟩
  have B2 := Lib.hid b2
  clear b2
  go_wp2_with fail
  refine (word_is x seed a3 _ hx hs k3).mono ?_
  rintro e w3 ⟨rfl, b3⟩
  have B3 := Lib.hid b3
  clear b3
  go_wp2_with fail
  refine (word_is y seed a4 _ hy hs k4).mono ?_
  rintro e w4 ⟨rfl, b4⟩
  have B4 := Lib.hid b4
  clear b4
  go_wp2_with fail
  refine (alive_is _).mono ?_
  rintro e w5 ⟨rfl, b5⟩
  go_wp2_with fail
  go_ret
  exact ⟨rfl, Below.on (Below.on (Below.on (Below.on (Below.on (below_drewN hB.out _) (Nat.le_refl _) B1.out) (Nat.le_refl _) B2.out) (Nat.le_refl _) B3.out) (Nat.le_refl _) B4.out) (Nat.le_refl _) b5⟩
set_option maxRecDepth 100000 in
set_option maxHeartbeats 1000000 in
theorem mixApart_odd (seed x y at_ g0 g1 g2 g3 g4 g5 g6 g7 : Int) (a : Option Addr) (len cap : Nat) (w : World) (h : len ≤ 200) (hs : U64 seed) (hx : U64 x) (hy : U64 y) (hat : ¬ at_ < 0) (hodd : ¬ at_ % 8 = 0) :
    Calls Try.prog 5 #[.int .u64 seed, .agg #[.int .u64 x, .int .u64 y], changeV (.slice a len cap) at_ g0 g1 g2 g3 g4 g5 g6 g7] w fun e w' => e = .returned (.bool true) ∧ Below w.heap.size w w' := by
  obtain ⟨a1, ha1⟩ : ∃ r, wordI seed x = r := ⟨_, rfl⟩
  obtain ⟨a2, ha2⟩ : ∃ r, wordI seed y = r := ⟨_, rfl⟩
  obtain ⟨a3, ha3⟩ : ∃ r, wordI x seed = r := ⟨_, rfl⟩
  obtain ⟨a4, ha4⟩ : ∃ r, wordI y seed = r := ⟨_, rfl⟩
  obtain ⟨t, hxy⟩ : ∃ t : Bool, (x == y) = t := ⟨_, rfl⟩
  have h12 : (a1 == a2) = t := by rw [← hxy, ← ha1, ← ha2]; exact word_tells seed x y hs hx hy
  have h34 : (a3 == a4) = t := by rw [← hxy, ← ha3, ← ha4]; exact word_tells2 seed x y hs hx hy
  have k1 := Lib.hid ha1
  have k2 := Lib.hid ha2
  have k3 := Lib.hid ha3
  have k4 := Lib.hid ha4
  clear ha1 ha2 ha3 ha4
  have b200 : ¬ (200 : Int) < len := by omega
  go_enter Try.func5, Try.ntmps5
  go_wp2_with fail
  go_region
  generalize hV : World.drew _ = V
  have hB := Lib.hid (start_below hV.symm)
  have c0 := start_x hV.symm
  have c1 := start_y hV.symm
  have hG := Lib.hid (start_row hV.symm)
  clear hV
  go_wp2_with fail
  go_quiet (fail)
  clear c0 c1
  go_wp2_with fail
  refine (word_is seed x a1 _ hs hx k1).mono ?_
  rintro e w1 ⟨rfl, b1⟩
  have B1 := Lib.hid b1
  clear b1
  go_wp2_with fail
  refine (word_is seed y a2 _ hs hy k2).mono ?_
  rintro e w2 ⟨rfl, b2⟩
  have B2 := Lib.hid b2
  clear b2
  go_wp2_with fail
  refine (word_is x seed a3 _ hx hs k3).mono ?_
  rintro e w3 ⟨rfl, b3⟩
  have B3 := Lib.hid b3
  clear b3
  go_wp2_with fail
  refine (word_is y seed a4 _ hy hs k4).mono ?_
  rintro e w4 ⟨rfl, b4⟩
  have B4 := Lib.hid b4
  clear b4
  go_wp2_with fail
  refine (alive_is _).mono ?_
  rintro e w5 ⟨rfl, b5⟩
  go_wp2_with fail
  go_ret
  exact ⟨rfl, Below.on (Below.on (Below.on (Below.on (Below.on (below_drewN hB.out _) (Nat.le_refl _) B1.out) (Nat.le_refl _) B2.out) (Nat.le_refl _) B3.out) (Nat.le_refl _) B4.out) (Nat.le_refl _) b5⟩
set_option maxRecDepth 100000 in
set_option maxHeartbeats 1000000 in
theorem mixApart_far (seed x y at_ g0 g1 g2 g3 g4 g5 g6 g7 : Int) (a : Option Addr) (len cap : Nat) (w : World) (h : len ≤ 200) (hs : U64 seed) (hx : U64 x) (hy : U64 y) (hat : ¬ at_ < 0) (hodd : at_ % 8 = 0) (hfar : (len : Int) - 8 < at_) :
    Calls Try.prog 5 #[.int .u64 seed, .agg #[.int .u64 x, .int .u64 y], changeV (.slice a len cap) at_ g0 g1 g2 g3 g4 g5 g6 g7] w fun e w' => e = .returned (.bool true) ∧ Below w.heap.size w w' := by
  obtain ⟨a1, ha1⟩ : ∃ r, wordI seed x = r := ⟨_, rfl⟩
  obtain ⟨a2, ha2⟩ : ∃ r, wordI seed y = r := ⟨_, rfl⟩
  obtain ⟨a3, ha3⟩ : ∃ r, wordI x seed = r := ⟨_, rfl⟩
  obtain ⟨a4, ha4⟩ : ∃ r, wordI y seed = r := ⟨_, rfl⟩
  obtain ⟨t, hxy⟩ : ∃ t : Bool, (x == y) = t := ⟨_, rfl⟩
  have h12 : (a1 == a2) = t := by rw [← hxy, ← ha1, ← ha2]; exact word_tells seed x y hs hx hy
  have h34 : (a3 == a4) = t := by rw [← hxy, ← ha3, ← ha4]; exact word_tells2 seed x y hs hx hy
  have k1 := Lib.hid ha1
  have k2 := Lib.hid ha2
  have k3 := Lib.hid ha3
  have k4 := Lib.hid ha4
  clear ha1 ha2 ha3 ha4
  have b200 : ¬ (200 : Int) < len := by omega
  go_enter Try.func5, Try.ntmps5
  go_wp2_with fail
  go_region
  generalize hV : World.drew _ = V
  have hB := Lib.hid (start_below hV.symm)
  have c0 := start_x hV.symm
  have c1 := start_y hV.symm
  have hG := Lib.hid (start_row hV.symm)
  clear hV
  go_wp2_with fail
  go_quiet (fail)
  clear c0 c1
  go_wp2_with fail
  refine (word_is seed x a1 _ hs hx k1).mono ?_
  rintro e w1 ⟨rfl, b1⟩
  have B1 := Lib.hid b1
  clear b1
  go_wp2_with fail
  refine (word_is seed y a2 _ hs hy k2).mono ?_
  rintro e w2 ⟨rfl, b2⟩
  have B2 := Lib.hid b2
  clear b2
  go_wp2_with fail
  refine (word_is x seed a3 _ hx hs k3).mono ?_
  rintro e w3 ⟨rfl, b3⟩
  have B3 := Lib.hid b3
  clear b3
  go_wp2_with fail
  refine (word_is y seed a4 _ hy hs k4).mono ?_
  rintro e w4 ⟨rfl, b4⟩
  have B4 := Lib.hid b4
  clear b4
  go_wp2_with fail
  refine (alive_is _).mono ?_
  rintro e w5 ⟨rfl, b5⟩
  go_wp2_with fail
  go_ret
  exact ⟨rfl, Below.on (Below.on (Below.on (Below.on (Below.on (below_drewN hB.out _) (Nat.le_refl _) B1.out) (Nat.le_refl _) B2.out) (Nat.le_refl _) B3.out) (Nat.le_refl _) B4.out) (Nat.le_refl _) b5⟩
set_option maxRecDepth 100000 in
set_option maxHeartbeats 1000000 in
theorem mixApart_good (seed x y g0 g1 g2 g3 g4 g5 g6 g7 : Int) (a : Option Addr) (j cap : Nat) (l : List Int) (w : World) (h : l.length ≤ 200) (hs : U64 seed) (hx : U64 x) (hy : U64 y) (hb : Hid (BytesAt w (.slice a l.length cap) l)) (hgb : Hid (M.Bytes [g0, g1, g2, g3, g4, g5, g6, g7])) (hj : 8 * j + 8 ≤ l.length) :
    Calls Try.prog 5 #[.int .u64 seed, .agg #[.int .u64 x, .int .u64 y], changeV (.slice a l.length cap) (8 * (j : Int)) g0 g1 g2 g3 g4 g5 g6 g7] w fun e w' => e = .returned (.bool true) ∧ Below w.heap.size w w' := by
  obtain ⟨a1, ha1⟩ : ∃ r, wordI seed x = r := ⟨_, rfl⟩
  obtain ⟨a2, ha2⟩ : ∃ r, wordI seed y = r := ⟨_, rfl⟩
  obtain ⟨a3, ha3⟩ : ∃ r, wordI x seed = r := ⟨_, rfl⟩
  obtain ⟨a4, ha4⟩ : ∃ r, wordI y seed = r := ⟨_, rfl⟩
  obtain ⟨t, hxy⟩ : ∃ t : Bool, (x == y) = t := ⟨_, rfl⟩
  have h12 : (a1 == a2) = t := by rw [← hxy, ← ha1, ← ha2]; exact word_tells seed x y hs hx hy
  have h34 : (a3 == a4) = t := by rw [← hxy, ← ha3, ← ha4]; exact word_tells2 seed x y hs hx hy
  have k1 := Lib.hid ha1
  have k2 := Lib.hid ha2
  have k3 := Lib.hid ha3
  have k4 := Lib.hid ha4
  clear ha1 ha2 ha3 ha4
  have b200 : ¬ (200 : Int) < l.length := by omega
  have q0 : ¬ 8 * (j : Int) < 0 := by omega
  have q1 : 8 * (j : Int) % 8 = 0 := by omega
  have q2 : ¬ (l.length : Int) - 8 < 8 * (j : Int) := by omega
  go_enter Try.func5, Try.ntmps5
  go_wp2_with fail
  go_region
  generalize hV : World.drew _ = V
  have hB := Lib.hid (start_below hV.symm)
  have c0 := start_x hV.symm
  have c1 := start_y hV.symm
  have hG := Lib.hid (start_row hV.symm)
  clear hV
  go_wp2_with fail
  go_quiet (fail)
  clear c0 c1
  go_wp2_with fail
  refine (word_is seed x a1 _ hs hx k1).mono ?_
  rintro e w1 ⟨rfl, b1⟩
  have B1 := Lib.hid b1
  clear b1
  go_wp2_with fail
  refine (word_is seed y a2 _ hs hy k2).mono ?_
  rintro e w2 ⟨rfl, b2⟩
  have B2 := Lib.hid b2
  clear b2
  go_wp2_with fail
  refine (word_is x seed a3 _ hx hs k3).mono ?_
  rintro e w3 ⟨rfl, b3⟩
  have B3 := Lib.hid b3
  clear b3
  go_wp2_with fail
  refine (word_is y seed a4 _ hy hs k4).mono ?_
  rintro e w4 ⟨rfl, b4⟩
  have B4 := Lib.hid b4
  clear b4
  have C4 := Lib.hid (Below.on (Below.on (Below.on (Below.on (below_drewN hB.out _) (Nat.le_refl _) B1.out) (Nat.le_refl _) B2.out) (Nat.le_refl _) B3.out) (Nat.le_refl _) B4.out)
  have G4 := Lib.hid (row_on (row_on (row_on (row_on (row_drew hG.out _) B1.out) B2.out) B3.out) B4.out)
  clear hB hG B1 B2 B3 B4
  have HE := Lib.hid (owns_empty w4 w4.heap.size (Nat.le_refl _))
  have HV := Lib.hid ((hb.out.below C4.out).below ((Below.refl w4.heap.size w4).alloc (Nat.le_refl _) (.cells #[] 5)))
  go_wp2_with (at_builtin; refine app_bytes _ rfl (.tmp 68) (.tmp 69) rfl w4.heap.size _ _ [] l rfl HE.out rfl HV.out (by simp; omega) (by simp) ?_; intro v5 w5 hown5 hbel5; obtain ⟨g, cap5, f, rfl, hg, hcap5, hrow, hf⟩ := own_row hown5 (by omega); have HR := Lib.hid hrow; have HF := Lib.hid hf; have C5 := Lib.hid (((Below.refl w4.heap.size w4).alloc (Nat.le_refl _) (.cells #[] 5)).trans hbel5); clear hown5 hbel5 hrow hf)
  go_loopw [13, 14] (fun s i V => ∃ (m : Nat) (b : Bool), m ≤ 8 ∧ i = .int .i64 m ∧ s = .bool b ∧ Hid (sm l [g0, g1, g2, g3, g4, g5, g6, g7] j m = b) ∧ Hid (V.rowIs g 5 cap5 (mid f [g0, g1, g2, g3, g4, g5, g6, g7] j m)) ∧ Hid (Below w4.heap.size w4 V)) (fun _ i _ => 8 - (intOf i).toNat)
  case atStart => exact ⟨0, true, Nat.zero_le _, rfl, rfl, Lib.hid rfl, Lib.hid (by rw [mid_zero]; exact HR.out), C5⟩
  case round =>
    obtain ⟨m, b, hm, rfl, rfl, hsm, HRm, hbm⟩ := hrel
    by_cases hlt : m < 8
    · obtain ⟨c, hc0⟩ : ∃ c, l.getD (8 * j + m) 0 = c := ⟨_, rfl⟩
      obtain ⟨d, hd0⟩ : ∃ d, [g0, g1, g2, g3, g4, g5, g6, g7].getD m 0 = d := ⟨_, rfl⟩
      have hcc := Lib.hid hc0
      have hdd := Lib.hid hd0
      have hc1 : wr.cell? ⟨g, 8 * j + m, none⟩ = some (.int .u8 c) := by rw [HRm.out.cell (by omega), mid_at, HF.out _ (by omega), hc0]
      have hc2 : wr.cell? ⟨w.heap.size + 1 + 1, m, none⟩ = some (.int .u8 d) := by rw [hbm.out.cell (p := ⟨w.heap.size + 1 + 1, m, none⟩) G4.out.lt, G4.out.cell hlt, hd0]
      have hfr := HRm.out.frozen (8 * j + m)
      have z0 : 0 ≤ 8 * (j : Int) + (m : Int) := by omega
      have z1 : 8 * (j : Int) + (m : Int) < l.length := by omega
      have z2 : (m : Int) < 8 := by omega
      have z3 : 0 ≤ (m : Int) := by omega
      clear hc0 hd0
      cases b
      · have hn := Lib.hid (show sm l [g0, g1, g2, g3, g4, g5, g6, g7] j (m + 1) = false by rw [sm, hsm.out, hcc.out, hdd.out]; rfl)
        go_wp2_with fail
        go_quiet (fail)
        go_wp2_with fail
        go_roundw
        case rel => exact ⟨m + 1, _, by omega, by go_num, rfl, hn, Lib.hid (mid_step (row_drew HRm.out _) hdd.out), Lib.hid ((below_drewN hbm.out _).setCell (p := ⟨g, 8 * j + m, none⟩) hg _)⟩
        case measure => simp [intOf]; omega
      · have hn := Lib.hid (show sm l [g0, g1, g2, g3, g4, g5, g6, g7] j (m + 1) = (c == d) by rw [sm, hsm.out, hcc.out, hdd.out]; rfl)
        go_wp2_with fail
        go_quiet (fail)
        go_wp2_with fail
        go_roundw
        case rel => exact ⟨m + 1, _, by omega, by go_num, rfl, hn, Lib.hid (mid_step (row_drew HRm.out _) hdd.out), Lib.hid ((below_drewN hbm.out _).setCell (p := ⟨g, 8 * j + m, none⟩) hg _)⟩
        case measure => simp [intOf]; omega
    · obtain rfl : m = 8 := by omega
      have HM := Lib.hid (mid_bytes HRm.out HF.out hcap5 hb.out.bytes hgb.out rfl hj)
      have HB := Lib.hid (hb.out.below (C4.out.trans (hbm.out.mono C4.out.size)))
      have hT := Lib.hid (sum_tells seed l [g0, g1, g2, g3, g4, g5, g6, g7] j hb.out.bytes hgb.out rfl hj)
      have hlen := Lib.hid (M.changed_len l [g0, g1, g2, g3, g4, g5, g6, g7] j rfl hj)
      obtain ⟨r1, hr1⟩ : ∃ r, sumI seed l = r := ⟨_, rfl⟩
      obtain ⟨r2, hr2⟩ : ∃ r, sumI seed (M.changed l j [g0, g1, g2, g3, g4, g5, g6, g7]) = r := ⟨_, rfl⟩
      have hT2 : (r1 == r2) = b := by rw [← hr1, ← hr2, hT.out, hsm.out]
      have kr1 := Lib.hid hr1
      have kr2 := Lib.hid hr2
      clear hr1 hr2 hT
      go_wp2_with fail
      refine (sum_is seed r1 _ l _ hs (by omega) HB.out kr1).mono ?_
      rintro e w6 ⟨rfl, b6⟩
      have B6 := Lib.hid b6
      clear b6
      go_wp2_with fail
      refine (sum_is seed r2 _ (M.changed l j [g0, g1, g2, g3, g4, g5, g6, g7]) _ hs (by rw [hlen.out]; omega) (HM.out.below B6.out) kr2).mono ?_
      rintro e w7 ⟨rfl, b7⟩
      have B7 := Lib.hid b7
      clear b7
      go_wp2_with fail
      refine (alive_is _).mono ?_
      rintro e w8 ⟨rfl, b8⟩
      go_wp2_with fail
      go_ret
      exact ⟨rfl, Below.on (Below.on (Below.on (C4.out.trans (hbm.out.mono C4.out.size)) (Nat.le_refl _) B6.out) (Nat.le_refl _) B7.out) (Nat.le_refl _) b8⟩
theorem mixApart_is (seed x y at_ g0 g1 g2 g3 g4 g5 g6 g7 : Int) (v : Value) (l : List Int) (w : World) (hs : U64 seed) (hx : U64 x) (hy : U64 y) (hb : BytesAt w v l) (hgb : M.Bytes [g0, g1, g2, g3, g4, g5, g6, g7]) :
    Calls Try.prog 5 #[.int .u64 seed, .agg #[.int .u64 x, .int .u64 y], changeV v at_ g0 g1 g2 g3 g4 g5 g6 g7] w fun e w' => e = .returned (.bool true) ∧ Below w.heap.size w w' := by
  have hb0 := hb
  obtain ⟨a, cap, rfl, _, _, _⟩ := hb0
  by_cases h : 200 < l.length
  · exact mixApart_big seed x y at_ g0 g1 g2 g3 g4 g5 g6 g7 a l.length cap w h
  · by_cases h1 : at_ < 0
    · exact mixApart_neg seed x y at_ g0 g1 g2 g3 g4 g5 g6 g7 a l.length cap w (by omega) hs hx hy h1
    · by_cases h2 : at_ % 8 = 0
      · by_cases h3 : (l.length : Int) - 8 < at_
        · exact mixApart_far seed x y at_ g0 g1 g2 g3 g4 g5 g6 g7 a l.length cap w (by omega) hs hx hy h1 h2 h3
        · obtain ⟨j, rfl⟩ : ∃ j : Nat, at_ = 8 * (j : Int) := ⟨(at_ / 8).toNat, by omega⟩
          exact mixApart_good seed x y g0 g1 g2 g3 g4 g5 g6 g7 a j cap l w (by omega) hs hx hy (Lib.hid hb) (Lib.hid hgb) (by omega)
      · exact mixApart_odd seed x y at_ g0 g1 g2 g3 g4 g5 g6 g7 a l.length cap w (by omega) hs hx hy h1 h2
end Go.Proofs.Ytmdolblcffnkcaa
