/- Read of the reference's cursor, at a name: where it fails. -/
import Derived.Test.YteggjihhjdeieaaRefRead
namespace Go.Proofs.Yteggjihhjdeieaa
open Go.RowKit

theorem bytes_mid {R : Option Nat} {w : World} {gR off cap : Nat} {c : Int} {r : List Int} (h : BytesIn R w (.slice (some ⟨gR, off, none⟩) (r.length + 1) cap) (c :: r)) (k : Nat) (hk : k ≤ r.length) : BytesIn R w (sliced (some ⟨gR, off, none⟩) 1 (1 + k) cap 1) (r.take k) := by
  have h2 := bytes_from (l := c :: r) h 1 (by simp)
  have hs : sliced (some ⟨gR, off, none⟩) 1 (c :: r).length cap 1 = .slice (if cap = 1 then some (⟨gR, off, none⟩ : Addr) else Option.map (fun x : Addr => x.add (1 * 1)) (some (⟨gR, off, none⟩ : Addr))) r.length (cap - 1) := by
    unfold sliced
    rw [List.length_cons, Nat.add_sub_cancel]
  rw [hs] at h2
  have h3 := bytes_upto (l := r) h2 k hk
  have e : sliced (some ⟨gR, off, none⟩) 1 (1 + k) cap 1 = .slice (if cap = 1 then some (⟨gR, off, none⟩ : Addr) else Option.map (fun x : Addr => x.add (1 * 1)) (some (⟨gR, off, none⟩ : Addr))) k (cap - 1) := by
    unfold sliced
    rw [Nat.add_sub_cancel_left]
  rw [e]
  exact h3
/-- x[1:hi] -/
theorem wpList_mid {ops : Array Oper} {rest : List Oper} {o : Oper} {ac : Act} {w : World} {Q : Exit → Act → World → Prop} (R : Option Nat) (hgd : o.guard = none) (x lo hi : Operand) (ho : o.op = .slice 42 x (some lo) (some hi) none)
    (gR off cap k : Nat) (c : Int) (r : List Int) (hx : ac.eval x = .slice (some ⟨gR, off, none⟩) (r.length + 1) cap) (hlo : ac.eval lo = .int .i64 1) (hhi : ac.eval hi = .int .i64 (1 + (k : Int))) (hv : BytesIn R w (.slice (some ⟨gR, off, none⟩) (r.length + 1) cap) (c :: r)) (hk : k ≤ r.length) (hcap : r.length + 1 ≤ cap)
    (h : ∀ a' cap', Hid (BytesIn R w (.slice a' k cap') (r.take k)) → wpList Try.prog ops Q rest (ac.put o.dst (.slice a' k cap')) w) : wpList Try.prog ops Q (o :: rest) ac w := by
  have hr : (Instr.sliceAt 42 (.slice (some ⟨gR, off, none⟩) (r.length + 1) cap) (some (.int .i64 1)) (some (.int .i64 (1 + (k : Int)))) none).run Try.prog w = .ok (sliced (some ⟨gR, off, none⟩) 1 (1 + k) cap 1) w := by
    have h1 : (1 : Int) ≤ 1 + (k : Int) := by omega
    have h2 : 1 + (k : Int) ≤ (cap : Int) := by omega
    have h3 : (1 + (k : Int)).toNat = 1 + k := by omega
    have h4 : (0 : Int) ≤ 1 + (k : Int) := by omega
    simp [Instr.sliceAt, Instr.slice, run_underlying elem31, Instr.sliceBounds, run_sliceBound, sliced, h1, h2, h3, h4]
  have hb := bytes_mid hv k hk
  obtain ⟨a', cap', e⟩ := hb.shape
  rw [List.length_take, Nat.min_eq_left hk] at e
  rw [e] at hb hr
  exact wpList_plain hgd fun _ hK => by
    unfold Oper.wp execOp
    simp only [ho, hx, hlo, hhi, Option.map_some, Option.map_none, Sem.run_bind, hr, Result.andThen_ok, Sem.run_pure]
    exact hK _ _ (h _ _ (Lib.hid hb))
/-- string(x) -/
theorem wpList_str {ops : Array Oper} {rest : List Oper} {o : Oper} {ac : Act} {w : World} {Q : Exit → Act → World → Prop} (hgd : o.guard = none) (x : Operand) (ho : o.op = .convert 42 9 x) (a : Option Addr) (n cap : Nat) (t : List Int) (s : ByteArray) (hx : ac.eval x = .slice a n cap) (hv : BytesAt w (.slice a n cap) t) (hs : s = strOfNums t)
    (h : wpList Try.prog ops Q rest (ac.put o.dst (.string s)) w) : wpList Try.prog ops Q (o :: rest) ac w := by
  have hr := str_of hv
  rw [← hs] at hr
  exact wpList_plain hgd fun _ hK => by
    unfold Oper.wp execOp
    simp only [ho, hx, Sem.run_bind, hr, Result.andThen_ok, Sem.run_pure]
    exact hK _ _ h
end Go.Proofs.Yteggjihhjdeieaa
