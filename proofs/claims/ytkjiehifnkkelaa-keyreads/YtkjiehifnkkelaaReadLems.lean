/- What the walk of WireReads asks. -/
import Derived.Test.YtkjiehifnkkelaaRefCur
namespace Go.Proofs.Ytkjiehifnkkelaa
open Go.RowKit

theorem rNum_short {most x : Int} {l rest : List Int} (h : M.rNum most l = .got x rest) : rest.length ≤ l.length := rNum_len h
theorem rd_b {d x n : Int} {l rest : List Int} {a : M.Val} (h : M.rd d x n l = .got a rest) : a.b.length ≤ l.length := by
  unfold M.rd at h
  split at h
  · cases hr : M.rNum x l with
    | bad e => rw [hr] at h; injection h
    | got y r =>
      rw [hr] at h
      injection h with h1 h2
      rw [← h1]; exact Nat.zero_le _
  · split at h
    · cases hr : M.rByte l with
      | bad e => rw [hr] at h; injection h
      | got y r =>
        rw [hr] at h
        injection h with h1 h2
        rw [← h1]; exact Nat.zero_le _
    · split at h
      · cases hr : M.rName l with
        | bad e => rw [hr] at h; injection h
        | got y r =>
          rw [hr] at h
          injection h with h1 h2
          rw [← h1]; exact Nat.zero_le _
      · cases hr : M.rBytes n l with
        | bad e => rw [hr] at h; injection h
        | got y r =>
          rw [hr] at h
          injection h with h1 h2
          rw [← h1]
          unfold M.rBytes at hr
          cases hq : M.rNum (max n 0) l with
          | bad e => rw [hq] at hr; injection hr
          | got z s =>
            rw [hq] at hr
            have hr' : M.rCut z s = .got y r := hr
            unfold M.rCut at hr'
            split at hr'
            · cases hr'
            · injection hr' with h3 h4
              have := rNum_short hq
              show y.length ≤ l.length
              rw [← h3, List.length_take]
              omega
theorem gate_nm {e d x n : Int} {l : List Int} : ((M.gate e (M.rd d x n l)).val M.zeroV).nm.length = 8 := by
  unfold M.gate
  split
  · cases h : M.rd d x n l with
    | bad e => rfl
    | got a r => exact rd_nm h
  · rfl
theorem gate_b {e d x n : Int} {l : List Int} : ((M.gate e (M.rd d x n l)).val M.zeroV).b.length ≤ l.length := by
  unfold M.gate
  split
  · cases h : M.rd d x n l with
    | bad e => exact Nat.zero_le _
    | got a r => exact rd_b h
  · exact Nat.zero_le _
theorem ref_new {w : World} {R : Option Nat} {v : Value} {l : List Int} (h : BytesIn R w v l) (hR : ∀ r, R = some r → r < w.heap.size) (hl : l.length ≤ 30000) : RefAt (w.alloc (.cells #[v, .int .i64 0] 49)) w.heap.size R 0 l :=
  ⟨v, ⟨blk_alloc w 49 [v, .int .i64 0], h.alloc _, fun e => Nat.lt_irrefl _ (hR _ e), fun r hr => by have := hR r hr; simp; omega⟩, fun h => absurd rfl h, hl⟩
end Go.Proofs.Ytkjiehifnkkelaa
