/- The contracts of slices.Chunk over bytes and of the iterator that it returns. -/
import Derived.Test.YtmdolblcffnkcaaBytes
import Derived.Test.YtmdolblcffnkcaaRange
import Derived.Test.YtmdolblcffnkcaaWordy
import Derived.Shelf.Abstract
import Derived.Shelf.RegionOpen
import Derived.WalkKit
import Derived.OwnWalkIn
import Derived.TacticsInMore
import Derived.LoopNIn
import Derived.LoopIn
namespace Go.Proofs.Ytmdolblcffnkcaa
open Go.RowKit Go.Shelf
attribute [local go_sem] Oper.semAt_some

theorem chunk_is (a : Option Addr) (n c : Nat) (w : World) :
    Calls Try.prog 31 #[.slice a n c, .int .i64 8] w fun e w' => e = .returned (.func (.func 37) #[] #[.pointer (some ⟨w.heap.size, 0, none⟩), .pointer (some ⟨w.heap.size + 1, 0, none⟩)]) ∧ w' = (w.alloc (.cells #[.slice a n c] 26)).alloc (.cells #[.int .i64 8] 3) := by
  go_enter Try.func31, Try.ntmps31
  go_wp2_with fail
  go_ret
  exact ⟨rfl, rfl⟩
theorem grown_drew (W : World) : W.grownBy W.drew none := ⟨rfl, rfl, rfl, Nat.le_refl _, fun _ _ _ => rfl⟩
theorem stays_self_drew (p : Nat → Prop) (c : Nat) (W : World) : Stays p c W W.drew := ⟨Nat.le_refl _, fun _ _ _ => rfl⟩
/-- The group number i of a slice. -/
abbrev chunkV (g off len i : Nat) : Value := .slice (some ⟨g, off + 8 * i, none⟩) (min 8 (len - 8 * i)) (min 8 (len - 8 * i))
set_option maxRecDepth 100000 in
set_option maxHeartbeats 1000000 in
theorem chunk_all (Bs Bn g off len cap : Nat) (p : Nat → Prop) (w : World) (hm : len ≤ 1000) (hc : len ≤ cap) (hBs : Boxed w Bs 26 (.slice (some ⟨g, off, none⟩) len cap)) (hBn : Boxed w Bn 3 (.int .i64 8)) (pS : p Bs) (pN : p Bn) :
    SeqAll Try.prog 37 #[.pointer (some ⟨Bs, 0, none⟩), .pointer (some ⟨Bn, 0, none⟩)] (fun i : Nat => #[chunkV g off len i]) p (List.range (M.count len)) w := by
  intro l J W hW hJ hY h0
  have hBs' : Boxed W Bs 26 (.slice (some ⟨g, off, none⟩) len cap) := (hW.block Bs hBs.lt).trans hBs
  have hBn' : Boxed W Bn 3 (.int .i64 8) := (hW.block Bn hBn.lt).trans hBn
  refine (callsIn_wide (n := 10)).1 ?_
  refine callsIn_of_wp Try.func37 rfl trivial ?_ rfl
  simp only [Try.ntmps37, List.size_toArray, List.length_cons, List.length_nil, Nat.reduceAdd, Nat.reduceSub, Array.replicate_succ, Array.replicate_zero, List.push_toArray, List.append_toArray, List.nil_append, List.cons_append]
  gi_wp2
  gi_loopw [4] (fun i wr => ∃ (k : Nat), k ≤ M.count len ∧ i = .int .i64 (8 * (k : Int)) ∧ J (List.range k) wr ∧ Stays p W.heap.size W wr) (fun i _ => (len + 8 - (intOf i).toNat))
  case atStart => exact ⟨0, Nat.zero_le _, rfl, h0, Stays.refl ..⟩
  case round =>
    obtain ⟨k, hk, rfl, hJk, hst⟩ := hrel
    have c0 := (hst.cell ⟨Bs, 0, none⟩ hBs'.lt (.inl pS)).trans hBs'.cell
    have c1 := (hst.cell ⟨Bn, 0, none⟩ hBn'.lt (.inl pN)).trans hBn'.cell
    by_cases hlt : k < M.count len
    · have hlt2 : 8 * k < len := by unfold M.count at hlt; omega
      have e1 : List.range (M.count len) = List.range k ++ k :: (List.range' (k + 1) (M.count len - k - 1)) := by
        exact M.range_cut k (M.count len) hlt
      have hmx : Try.prog.follows .mixedOrders = true := by kernel_rfl
      have b0 : 0 ≤ 8 * (k : Int) := by omega
      have b1 : 8 * (k : Int) < len := by omega
      have b2 : 8 * (k : Int) ≤ len := by omega
      have b3 : 8 * (k : Int) ≤ cap := by omega
      have hJd : J (List.range k) wr.drew := hJ _ wr _ none hJk (grown_drew wr) (fun r e => by cases e)
      by_cases h8 : ((len - 8 * k : Nat) : Int) < 8
      ·
        obtain ⟨fn, tmps, assign, body, hy0, hR⟩ := yield_any (hY (List.range k) k _ wr.drew e1 hJd) 9 none
        have hy : (Instr.yield l #[.slice (some ⟨g, off + 8 * k, none⟩) (len - 8 * k) (len - 8 * k)]).run Try.prog wr.drew = .ok (.round l fn tmps assign body) wr.drew := by
          rw [show len - 8 * k = min 8 (len - 8 * k) by omega]; exact hy0
        clear hy0
        gi_wp2
        gi_region
        all_goals gi_wp2
        all_goals refine hR.mono ?_
        all_goals rintro e W3 ⟨rfl, hJ3, hk3⟩
        all_goals have d1 := (hk3.cell ⟨Bn, 0, none⟩ (Nat.lt_of_lt_of_le hBn'.lt hst.size) (.inl pN)).trans c1
        all_goals gi_wp2
        all_goals go_roundw
        case rel => exact ⟨k + 1, hlt, by go_num, by rw [List.range_succ]; exact hJ3, (hst.trans (stays_self_drew ..)).trans hk3⟩
        case measure => simp [intOf]; omega
      ·
        obtain ⟨fn, tmps, assign, body, hy0, hR⟩ := yield_any (hY (List.range k) k _ wr.drew e1 hJd) 9 none
        have hy : (Instr.yield l #[.slice (some ⟨g, off + 8 * k, none⟩) 8 8]).run Try.prog wr.drew = .ok (.round l fn tmps assign body) wr.drew := by
          have h88 : 8 = min 8 (len - 8 * k) := by omega
          have hy1 := hy0
          simp only [chunkV, ← h88] at hy1; exact hy1
        clear hy0
        gi_wp2
        gi_region
        all_goals gi_wp2
        all_goals refine hR.mono ?_
        all_goals rintro e W3 ⟨rfl, hJ3, hk3⟩
        all_goals have d1 := (hk3.cell ⟨Bn, 0, none⟩ (Nat.lt_of_lt_of_le hBn'.lt hst.size) (.inl pN)).trans c1
        all_goals gi_wp2
        all_goals go_roundw
        case rel => exact ⟨k + 1, hlt, by go_num, by rw [List.range_succ]; exact hJ3, (hst.trans (stays_self_drew ..)).trans hk3⟩
        case measure => simp [intOf]; omega
    · have hlt2 : len ≤ 8 * k := by unfold M.count at hlt; omega
      have b1 : ¬ 8 * (k : Int) < len := by omega
      obtain rfl : k = M.count len := by omega
      gi_wp2
      go_end0
      exact ⟨⟨_, rfl⟩, hJk⟩
end Go.Proofs.Ytmdolblcffnkcaa
