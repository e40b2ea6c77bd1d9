/- The walks of the laws NumSplits and NumBack. -/
import Derived.Test.YtmfofgakenpnaaaDoorSplit
namespace Go.Proofs.YtmfofgakenpnaaaDoor
open Go.RowKit

theorem splitGo_len (f : ByteArray → Int × Int) (ws : List ByteArray) : ∀ k acc, (splitGo f ws k acc).1.length ≤ acc.length + ws.length := by
  induction ws with
  | nil => intro k acc; simp [splitGo]
  | cons p r ih =>
    intro k acc
    rw [splitGo]
    split
    · have := ih (k + 1) (acc ++ [(f p).1])
      rw [List.length_append, List.length_singleton] at this
      rw [List.length_cons]; omega
    · simp
theorem split_len (s : ByteArray) (lo hi : Int) (h : s.size ≤ 10000) : (splitOf s lo hi).1.length ≤ 100000 := by
  have h1 := splitGo_len (fun p => parsed p.data.toList lo hi) (M.wordsOf s) 0 []
  have h2 := words_len s
  rw [splitOf]; simp only [List.length_nil] at h1; omega

set_option maxRecDepth 100000 in
set_option maxHeartbeats 1000000 in
theorem numSplits_any (v : Value) (l : List Int) (s : ByteArray) (b0 b1 : Int) (w : World) (hv : IntsAt w v l) (hs : s.size ≤ maxLen) (hln : l.length ≤ maxLen) (ht : Tab w) :
    Calls Tryd.prog 5 #[v, .string s, .agg #[.int .i64 b0, .int .i64 b1]] w fun e w' => e = .returned (.bool true) ∧ Below w.heap.size w w' := by
  unfold maxLen at hs hln
  have hA := fun o => Lib.hid ((Below.refl w.heap.size w).alloc (Nat.le_refl _) o)
  have HV := Lib.hid hv
  have HT := Lib.hid ht
  obtain ⟨a, cap, hva, _⟩ := hv
  subst hva
  clear ht
  by_cases hbig : 60 < l.length
  · go_enter Tryd.func5, Tryd.ntmps5
    go_wp2_with fail
    refine (alive_any _ (HT.out.below (hA _).out)).mono ?_
    rintro e w1 ⟨rfl, hb1⟩
    have hb2 := Lib.hid ((hA _).out.trans (hb1.mono (by simp)))
    go_wp2_with fail
    go_ret
    exact ⟨rfl, hb2.out⟩
  · by_cases hbig2 : 400 < s.size
    · go_enter Tryd.func5, Tryd.ntmps5
      go_wp2_with fail
      refine (alive_any _ (HT.out.below (hA _).out)).mono ?_
      rintro e w1 ⟨rfl, hb1⟩
      have hb2 := Lib.hid ((hA _).out.trans (hb1.mono (by simp)))
      go_wp2_with fail
      go_ret
      exact ⟨rfl, hb2.out⟩
    · obtain ⟨⟨rl, rn, re⟩, hr0⟩ : ∃ r, splitOf s b0 b1 = r := ⟨_, rfl⟩
      obtain ⟨t, ht0⟩ : ∃ t : ByteArray, t = ⟨(joinTo l l.length).toArray⟩ := ⟨_, rfl⟩
      have hTT := Lib.hid ht0
      have hR := Lib.hid hr0
      clear ht0 hr0
      go_enter Tryd.func5, Tryd.ntmps5
      go_wp2_with fail
      have hsp := split_any s b0 b1 (w.alloc (.cells #[.int .i64 b0, .int .i64 b1] 22)) (by omega)
      rw [hR.out] at hsp
      refine hsp.mono ?_
      clear hsp
      rintro e w2 ⟨va, rfl, hia, hb2⟩
      have hbB := (hA (.cells #[.int .i64 b0, .int .i64 b1] 22)).out.trans (hb2.mono (by simp))
      have q0 : w2.cell? ⟨w.heap.size, 0, none⟩ = some (.int .i64 b0) := (hb2.cell (p := ⟨w.heap.size, 0, none⟩) (by simp)).trans (by simp)
      have q1 : w2.cell? ⟨w.heap.size, 1, none⟩ = some (.int .i64 b1) := (hb2.cell (p := ⟨w.heap.size, 1, none⟩) (by simp)).trans (by simp)
      have HIA := Lib.hid hia
      clear hia hb2
      go_wp2_with fail
      have hsp := refSplit_any s b0 b1 w2 (by omega)
      rw [hR.out] at hsp
      refine hsp.mono ?_
      clear hsp
      rintro e w3 ⟨vb, rfl, hib, hb3⟩
      have hbC := hbB.trans (hb3.mono hbB.size)
      have HIA3 := Lib.hid (HIA.out.below hb3)
      have HIB := Lib.hid hib
      clear hib hb3 hbB q0 q1
      go_wp2_with fail
      refine (join_is _ l t w3 (by omega) (HV.out.below hbC) (HT.out.below hbC) hTT).mono ?_
      rintro e w4 ⟨rfl, hb4⟩
      have hbD := hbC.trans (hb4.mono hbC.size)
      have HIA4 := Lib.hid (HIA3.out.below hb4)
      have HIB4 := Lib.hid (HIB.out.below hb4)
      clear hb4 hbC
      go_wp2_with fail
      refine (refJoin_is _ l t w4 (by omega) (HV.out.below hbD) hTT).mono ?_
      rintro e w5 ⟨rfl, rfl⟩
      go_wp2_with fail
      refine (same_any va vb rl w4 (by have := split_len s b0 b1 (by omega); rw [hR.out] at this; exact this) HIA4.out HIB4.out).mono ?_
      rintro e w6 ⟨rfl, hb6⟩
      have hbE := hbD.trans (hb6.mono hbD.size)
      clear hb6 hbD
      go_wp2_with fail
      refine (alive_any _ (HT.out.below hbE)).mono ?_
      rintro e w7 ⟨rfl, hb7⟩
      have hbF := Lib.hid (hbE.trans (hb7.mono hbE.size))
      go_wp2_with fail
      go_ret
      exact ⟨rfl, hbF.out⟩
end Go.Proofs.YtmfofgakenpnaaaDoor
