/- The contract of Sum of package mix. -/
import Derived.Test.YtmdolblcffnkcaaWords
import Derived.Test.YtmdolblcffnkcaaWord
namespace Go.Proofs.Ytmdolblcffnkcaa
open Go.RowKit Go.Shelf
attribute [local go_sem] Oper.semAt_some

theorem sumI_is (seed : Int) (l : List Int) (h0 : Int) (hh : wordI seed l.length = h0) : sumI seed l = ((M.chain h0.toNat (M.words l (M.count l.length)) : Nat) : Int) := by
  rw [← hh, wordI, Int.toNat_natCast, Int.toNat_natCast, sumI, M.sum]
set_option maxRecDepth 100000 in
set_option maxHeartbeats 1000000 in
theorem sum_is (seed r : Int) (v : Value) (l : List Int) (w : World) (hs : U64 seed) (hm : l.length ≤ 1000) (hb : BytesAt w v l) (hr : Hid (sumI seed l = r)) :
    Calls Try.prog 10 #[.int .u64 seed, v] w fun e w' => e = .returned (.int .u64 r) ∧ Below w.heap.size w w' := by
  obtain ⟨h0, hh0⟩ : ∃ h, wordI seed l.length = h := ⟨_, rfl⟩
  have hh0U : U64 h0 := by rw [← hh0]; exact wordI_U64 ..
  have kh := Lib.hid hh0
  have hlU : U64 (l.length : Int) := by unfold U64; omega
  have hfin := Lib.hid ((sumI_is seed l h0 hh0).symm.trans hr.out)
  have hbb := hb
  obtain ⟨a, cap, hv, _, hbytes, _⟩ := hbb
  subst hv
  clear hh0 hr
  refine (callsIn_wide (n := 10)).1 ?_
  refine callsIn_of_wp_marks Try.func10 rfl trivial ?_ rfl
  simp only [Try.ntmps10, List.size_toArray, List.length_cons, List.length_nil, Nat.reduceAdd, Nat.reduceSub, Array.replicate_succ, Array.replicate_zero, List.push_toArray, List.append_toArray, List.nil_append, List.cons_append]
  gi_wp2_with first
    | (refine ⟨trivial, ?_⟩; gi_at_call 6; refine (callsIn_wide.2 (word_is seed l.length h0 _ hs hlU kh)).mono ?_; rintro e w1 ⟨rfl, b1⟩)
    | (refine ⟨trivial, ?_⟩; gi_at_call 20; refine (callsIn_wide.2 (words_is _ _ _ _)).mono ?_; rintro e w2 ⟨rfl, rfl⟩)
  obtain ⟨W0, hW0⟩ : ∃ W0, (w1.alloc (.cells #[.int .u64 h0] 22)).alloc (.cells #[.slice a l.length cap] 26) = W0 := ⟨_, rfl⟩
  have hH0 : Boxed W0 w1.heap.size 22 (.int .u64 h0) := by rw [← hW0]; exact (Boxed.new w1 22 _).alloc _
  have hB0 : Boxed W0 (w1.heap.size + 1) 26 (.slice a l.length cap) := by
    have h := Boxed.new (w1.alloc (.cells #[.int .u64 h0] 22)) 26 (.slice a l.length cap)
    rw [hW0, World.size_alloc] at h; exact h
  have hle := b1.size
  have hbe0 : Below w.heap.size w W0 := by rw [← hW0]; exact (b1.alloc hle _).alloc (by simp; omega) _
  have hsz : W0.heap.size = w1.heap.size + 2 := by rw [← hW0]; simp
  rw [hW0]
  clear hW0
  refine range_all (gf := 30) (lb := #[.pointer (some ⟨w1.heap.size + 1, 0, none⟩)]) rfl (enters_of Try.func30 (by kernel_rfl) rfl)
    (words_all (w1.heap.size + 1) _ l (fun k => k < w.heap.size) w W0 hm hb hB0 (Agrees.of_below hbe0) (fun _ h => h)) (fun k hk => by omega) (fun _ => rfl)
    (fun pre V => Boxed V w1.heap.size 22 (.int .u64 ((M.chain h0.toNat pre : Nat) : Int)) ∧ Below w.heap.size w V)
    (OwnFrom.and (Own.from (boxed_own _ _ _) _) (ownFrom_below (Nat.le_refl _) (by omega)))
    ⟨by rw [M.chain_nil, Int.toNat_of_nonneg hh0U.1]; exact hH0, hbe0⟩
    (fun pre x a' V => (Boxed V w1.heap.size 22 (.int .u64 ((M.chain h0.toNat pre : Nat) : Int)) ∧ Below w.heap.size w V) ∧
      a' = { tmps := #[.int .u64 seed, .slice a l.length cap, undef, undef, .int .u64 0, .pointer (some ⟨w1.heap.size, 0, none⟩), .int .u64 x, .int .u64 seed, .slice a l.length cap, .int .i64 l.length, .int .u64 l.length, .int .u64 h0, .slice a l.length cap, .func (.func 30) #[] #[.pointer (some ⟨w1.heap.size + 1, 0, none⟩)], .int .u64 x, undef, undef, undef, undef, undef], defers := [] })
    ?hAx ?assign ?body ?done
  case hAx =>
    intro pre x a' _ X Y row ⟨h1, h2⟩ hg hr
    exact ⟨OwnFrom.and (Own.from (boxed_own w1.heap.size 22 (fun (_ : Unit) => .int .u64 ((M.chain h0.toNat pre : Nat) : Int))) _) (ownFrom_below (Nat.le_refl _) (by omega)) () X Y row h1 hg hr, h2⟩
  case assign =>
    rintro l2 pre x rest V K hxs hI hK
    gi_wp2
    exact hK _ _ (Stays.refl ..) ⟨hI, rfl⟩
  case body =>
    rintro l2 pre x rest a' V hxs ⟨⟨hH, hB⟩, rfl⟩
    have hxU : U64 (x : Int) := of_lt (by
      have : x ∈ M.words l (M.count l.length) := by rw [hxs]; simp
      obtain ⟨i, _, rfl⟩ := List.mem_map.1 this
      exact M.wordAt_lt hbytes i)
    obtain ⟨h, hh⟩ : ∃ h : Int, ((M.chain h0.toNat pre : Nat) : Int) = h := ⟨_, rfl⟩
    have hU : U64 h := by rw [← hh]; exact of_lt (M.chain_lt _ _ (toNat_lt hh0U))
    obtain ⟨q, hq⟩ : ∃ q, rotI h 23 = q := ⟨_, rfl⟩
    have hqU : U64 q := by rw [← hq]; exact rotI_U64 ..
    obtain ⟨z, hz⟩ : ∃ z, wordI q x = z := ⟨_, rfl⟩
    have hnext : ((M.chain h0.toNat (pre ++ [x]) : Nat) : Int) = z := by
      rw [← hz, ← hq, sumI_step, M.chain_snoc, ← hh, Int.toNat_natCast, Int.toNat_natCast]
    rw [hh] at hH
    have kq := Lib.hid hq
    have kz := Lib.hid hz
    have c1 := hH.cell
    clear hq hz hh
    gi_wp2_with first
      | (refine ⟨trivial, ?_⟩; gi_at_call 21; refine (CallsIn.inRound l2 (callsIn_wide.2 (rot_is h 23 q _ hU.1 hU.2 (by omega) (by omega) kq))).mono ?_; rintro e w3 ⟨rfl, rfl⟩)
      | (refine ⟨trivial, ?_⟩; gi_at_call 6; refine (CallsIn.inRound l2 (callsIn_wide.2 (word_is q x z _ hqU hxU kz))).mono ?_; rintro e w3 ⟨rfl, b3⟩; have b5 : Boxed w3 w1.heap.size 22 (.int .u64 h) := (b3.block w1.heap.size hH.lt).trans hH; have c5 := b5.cell; have f5 := b5.frozen)
    exact ⟨(Stays.of_below b3).trans (Stays.setCell w3 ⟨w1.heap.size, 0, none⟩ _ (by show ¬ w1.heap.size < w.heap.size; omega) (by show w1.heap.size < w1.heap.size + 2; omega)), b5.set _, (hB.trans (b3.mono hB.size)).setCell (p := ⟨w1.heap.size, 0, none⟩) hle _⟩
  case done =>
    rintro D V hD ⟨hH, hB⟩ hK
    have c1 := hH.cell
    rw [hfin.out] at c1
    gi_wp2
    refine ⟨by simp, .inl ⟨_, _, rfl, run_takeDeferred hK, ?_⟩⟩
    refine ⟨_, results_tmp rfl _ _ _, ?_, ?_⟩
    · exact rfl
    · exact hB.trans (belowK_b (w := w) (Nat.le_refl _) V D _ _ (by omega) hK rfl rfl)
end Go.Proofs.Ytmdolblcffnkcaa
