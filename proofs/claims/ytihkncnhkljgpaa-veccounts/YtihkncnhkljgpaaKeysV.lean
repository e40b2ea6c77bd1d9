/- The contracts of Keys of package maps, of its iterator, of AppendSeq and Collect of slices, at vectors. -/
import Derived.Test.YtihkncnhkljgpaaCount
import Derived.Test.YtihkncnhkljgpaaGRange
namespace Go.Proofs.Ytihkncnhkljgpaa
open Go.RowKit Go.Shelf
attribute [local go_sem] Oper.semAt_some

theorem RangeN.same {w w' : World} {b r n : Nat} {f g : List Int → Option Int} {cnt : Nat} (h : RangeN w b r n f g cnt) (hb : w'.heap[b]? = w.heap[b]?) (hr : w'.heap[r]? = w.heap[r]?) : RangeN w' b r n f g cnt := by
  obtain ⟨D, left, ⟨es, clock, since, seen, c0, e1, e2, e3, e4, e5, e6⟩, h2⟩ := h.own
  exact ⟨h.ok, h.sub, D, left, ⟨es, clock, since, seen, c0, hb.trans e1, e2, e3, e4, hr.trans e5, e6⟩, h2⟩
/-- What has been handed over, and what is still to come. -/
structure KI (f g : List Int → Option Int) (out : List (List Int)) : Prop where
  all : ∀ k, f k ≠ none ↔ (g k ≠ none ∨ k ∈ out)
  gone : ∀ k ∈ out, g k = none
  dist : out.Nodup
theorem KI.start (f : List Int → Option Int) : KI f f [] := ⟨fun _ => by simp, fun _ h => (by cases h), List.nodup_nil⟩
theorem KI.step {f g : List Int → Option Int} {out : List (List Int)} (h : KI f g out) {k : List Int} {v : Int} (hg : g k = some v) : KI f (delV g k) (out ++ [k]) := by
  refine ⟨fun x => ?_, fun x hx => ?_, ?_⟩
  · rw [h.all]
    unfold delV
    by_cases e : x = k
    · subst e; simp [hg]
    · simp [e]
  · unfold delV
    by_cases e : x = k
    · rw [if_pos e]
    · rw [if_neg e]
      rcases List.mem_append.1 hx with h1 | h1
      · exact h.gone x h1
      · exact absurd (List.mem_singleton.1 h1) e
  · rw [List.nodup_append]
    refine ⟨h.dist, by simp, fun a ha b hb => ?_⟩
    rw [List.mem_singleton] at hb
    subst hb
    intro e
    subst e
    rw [h.gone _ ha] at hg
    cases hg
def NxK (f : List Int → Option Int) (n : Nat) (pre : List (List Int)) (x : List Int) : Prop := VOk x ∧ f x ≠ none ∧ pre.length < n
def FinK (f : List Int → Option Int) (n : Nat) (s : List (List Int)) : Prop := s.Nodup ∧ (∀ k, k ∈ s ↔ f k ≠ none) ∧ s.length ≤ n
abbrev encV (x : List Int) : Array Value := #[.agg (vc x).toArray]
set_option maxRecDepth 100000 in
set_option maxHeartbeats 4000000 in
theorem keys_seq (g b n : Nat) (f : List Int → Option Int) (W0 : World) (hm : MapN W0 b n f) : SeqGen 46 #[.pointer (some ⟨g, 0, none⟩)] (fun V => Blk V g 41 [.map (some b)] ∧ V.heap[b]? = W0.heap[b]?) encV (NxK f n) (FinK f n) := by
  intro l J X W hJb hJo hJn hY hN0 h0
  have hz := zero24
  have c0 := hN0.1.cell (i := 0) rfl
  have HM := Lib.hid (hm.same hN0.2)
  have JB := Lib.hid hJb
  have JO := Lib.hid hJo
  have JN := Lib.hid hJn
  have HY := Lib.hid hY
  have H0 := Lib.hid h0
  have BW := Lib.hid (show W.heap[b]? = W0.heap[b]? from hN0.2)
  clear hJb hJo hJn hY hN0 h0 hm
  refine (callsIn_wide (n := 10)).1 ?_
  refine callsIn_of_wp Try.func46 rfl trivial ?_ rfl
  simp only [Try.ntmps46, List.size_toArray, List.length_cons, List.length_nil, Nat.reduceAdd, Nat.reduceSub, Array.replicate_succ, Array.replicate_zero, List.push_toArray, List.append_toArray, List.nil_append, List.cons_append]
  gi_wp2_with (first
    | (refine in_plain wide_no rfl (by intro c h; cases h) ?_; refine wpList_rangeN rfl _ rfl b n f rfl HM.out ?_; intro r W1 cnt er R1 ec B1; refine in_done ?_))
  have CN := Lib.hid (show cnt ≤ n by rw [ec.out]; exact HM.out.msize_le)
  have RS := Lib.hid (show r < W1.heap.size from R1.out.lt)
  have RG := Lib.hid (show W.heap.size ≤ r from Nat.le_of_eq er.out.symm)
  have BB := Lib.hid (show W.heap.size ≤ W1.heap.size from B1.out.size)
  have BM := Lib.hid (show W1.heap[b]? = W0.heap[b]? from (B1.out.block b HM.out.lt).trans BW.out)
  have J0 := Lib.hid (show J W1.heap.size [] W1 from H0.out _ _ BB.out (Nat.le_refl _) B1.out)
  clear er ec
  gi_loopw [] (fun wr => ∃ (gg : List Int → Option Int) (cnt : Nat) (out : List (List Int)), RangeN wr b r n f gg cnt ∧ KI f gg out ∧ out.length + cnt ≤ n ∧ J W1.heap.size out wr ∧ W1.heap.size ≤ wr.heap.size) (fun wr => wr.rangeLeft b r)
  case atStart => exact ⟨f, cnt, [], R1.out, KI.start f, by have := CN.out; simpa using this, J0.out, Nat.le_refl _⟩
  case round =>
    obtain ⟨gg, cnt, out, hr, hc, hle, hj, hsz⟩ := hrel
    have RR := Lib.hid hr
    have CC := Lib.hid hc
    have LE := Lib.hid hle
    have JJ := Lib.hid hj
    have SZ := Lib.hid hsz
    clear hr hc hle hj hsz
    gi_wp2_with (first
      | (refine in_plain wide_no rfl (by intro c h; cases h) ?_; refine wpList_nextN rfl _ rfl b r n f gg cnt rfl RR.out ?_ ?_))
    · intro h0
      refine in_done ?_
      gi_wp2
      go_end0
      refine ⟨⟨_, rfl⟩, .inl ⟨out, _, ⟨CC.out.dist, fun k => ?_, by have := LE.out; omega⟩, JJ.out⟩⟩
      rw [CC.out.all k, h0.out k]; simp
    · intro k v w5 cnt5 hg R5 hlt O5 S5 hent
      refine in_done ?_
      have KO := Lib.hid (show VOk k from RR.out.ok.k k v (RR.out.sub k v hg.out))
      have FK := Lib.hid (show f k ≠ none by rw [RR.out.sub k v hg.out]; simp)
      have Z := Lib.hid (blk_alloc w5 24 (vc vz))
      have J5 := Lib.hid (JO.out _ _ _ _ _ JJ.out O5.out RG.out RS.out)
      have SZ5 := Lib.hid (show W1.heap.size ≤ w5.heap.size by rw [S5.out]; exact SZ.out)
      gi_wp2_with (first
        | (refine in_plain wide_no rfl (by intro c h; cases h) ?_; refine wpList_store_v t24 rfl _ _ rfl w5.heap.size vz k rfl rfl Z.out rfl KO.out.len ?_; intro w6 N6 O6; refine in_done ?_; have B6 := Lib.hid (box_below O6.out); have J6 := Lib.hid (JB.out _ _ _ _ J5.out B6.out))
        | (refine in_plain wide_no rfl (by intro c h; cases h) ?_; refine wpList_load_v t24 rfl _ rfl w5.heap.size 0 k rfl N6.out.range KO.out.len ?_; refine in_done ?_; obtain ⟨fn, tmps, assign, body, hy, hR⟩ := yield_any (HY.out _ out k w6 ⟨KO.out, FK.out, by have := LE.out; have := hlt.out; omega⟩ J6.out BB.out (Nat.le_trans SZ5.out B6.out.size)) 9 none))
      refine hR.mono ?_
      rintro e W3 ⟨hs3, hk3, (⟨rfl, hJ3⟩ | ⟨rfl, hX3⟩)⟩
      · have J3 := Lib.hid hJ3
        have R3 := Lib.hid (show RangeN W3 b r n f (delV gg k) cnt5 from (R5.out.below B6.out).same ((JN.out _ _ _ hJ3).2.trans (JN.out _ _ _ J6.out).2.symm) (hk3 r RG.out RS.out))
        have S3 := Lib.hid (Nat.le_trans (Nat.le_trans SZ5.out B6.out.size) hs3)
        have RL := Lib.hid (show W3.rangeLeft b r < wr.rangeLeft b r by rw [R3.out.left_eq, RR.out.left_eq]; exact hlt.out)
        clear hJ3 hR hy hk3 hs3
        gi_wp2
        go_roundw
        case rel => exact ⟨delV gg k, cnt5, out ++ [k], R3.out, CC.out.step hg.out, by have := LE.out; have := hlt.out; rw [List.length_append, List.length_singleton]; omega, J3.out, S3.out⟩
        case measure => exact RL.out
      · have X3 := Lib.hid hX3
        clear hX3 hR hy hk3 hs3
        gi_wp2
        refine bodyPost_ret (results_none rfl _ _ _) rfl ?_
        exact ⟨⟨_, rfl⟩, .inr X3.out⟩
end Go.Proofs.Ytihkncnhkljgpaa
