/- The contracts of Join: of package num, and of the reference. -/
import Derived.Test.YtmfofgakenpnaaaDoorBuilder
namespace Go.Proofs.YtmfofgakenpnaaaDoor
open Go.RowKit

def InI64 (n : Int) : Prop := -9223372036854775808 ≤ n ∧ n ≤ 9223372036854775807
/-- The first k numbers in a line. -/
def joinTo (l : List Int) : Nat → List UInt8
  | 0 => []
  | k + 1 => (if 0 < k then joinTo l k ++ [32] else joinTo l k) ++ Lib.itoa (l.getD k 0)
theorem join_len (l : List Int) (h : ∀ x ∈ l, InI64 x) (k : Nat) : (joinTo l k).length ≤ 22 * k := by
  induction k with
  | zero => simp [joinTo]
  | succ k ih =>
    have hx : InI64 (l.getD k 0) := by
      rw [List.getD_eq_getElem?_getD]
      cases hk : l[k]? with
      | none => exact ⟨by simp, by simp⟩
      | some x => exact h x (List.mem_of_getElem? hk)
    have hl := Lib.itoa_length_le _ hx.1 hx.2
    rw [joinTo, List.length_append]
    split
    · rw [List.length_append, List.length_singleton]; omega
    · omega
/-- The value v is a slice that holds the ints l. -/
def IntsAt (w : World) (v : Value) (l : List Int) : Prop :=
  ∃ a cap, v = .slice a l.length cap ∧ (∀ x ∈ l, InI64 x) ∧ (0 < l.length → ∃ g off, a = some ⟨g, off, none⟩ ∧ g < w.heap.size ∧ ∀ i (h : i < l.length), w.cell? ⟨g, off + i, none⟩ = some (.int .i64 l[i]))
theorem IntsAt.below {w w' : World} {v : Value} {l : List Int} (h : IntsAt w v l) (hb : Below w.heap.size w w') : IntsAt w' v l := by
  obtain ⟨a, cap, hv, hr, hc⟩ := h
  refine ⟨a, cap, hv, hr, fun h0 => ?_⟩
  obtain ⟨g, off, ha, hg, hcell⟩ := hc h0
  exact ⟨g, off, ha, Nat.lt_of_lt_of_le hg hb.size, fun i hi => (hb.cell (p := ⟨g, off + i, none⟩) hg).trans (hcell i hi)⟩
theorem owns_below {w w' : World} {B e n : Nat} {v : Value} {xs : List Value} (h : w.ownsRow B e 1 v n xs) (hb : Below w.heap.size w w') : w'.ownsRow B e 1 v n xs :=
  h.kept (row := none) ⟨hb.os, hb.tape, hb.output, hb.size, fun k hk _ => hb.block k hk⟩ (by cases hv : v.ownBlock <;> simp)
theorem builder_below {w w' : World} {B b : Nat} {bs : List Value} (h : Lib.IsBuilder 51 5 B b bs w) (hb : Below w.heap.size w w') : Lib.IsBuilder 51 5 B b bs w' := by
  have key : ∀ p, Lib.BuilderAt 51 5 B b p bs w → Lib.BuilderAt 51 5 B b p bs w' := by
    intro p hp
    have hlt := hp.lt
    obtain ⟨hB, v, hbk, hown, hne⟩ := hp
    exact ⟨hB, v, (hb.block b hlt).trans hbk, owns_below hown hb, hne⟩
  rcases h with h | h
  · exact Or.inl (key _ h)
  · exact Or.inr (key _ h)

set_option maxRecDepth 100000 in
set_option maxHeartbeats 400000 in
theorem spaced_nil (a : Option Addr) (cap : Nat) (w : World) : Calls Tryd.prog 32 #[.slice a 0 cap] w fun e w' => e = .returned (.string ⟨#[]⟩) ∧ Below w.heap.size w w' := by
  go_enter Tryd.func32, Tryd.ntmps32
  go_wp2
  refine wp_loop_rounds 1 ?_
  rw [rounds_succ]
  go_wp2_with fail
  have hI := Lib.fresh_isBuilder 51 5 w
  have hb := (Below.refl w.heap.size w).alloc (Nat.le_refl _) (.cells #[.pointer none, .slice none 0 0] 51)
  refine (Tryd.Builder_String_any w.heap.size w.heap.size [] _ hI (by simp)).mono ?_
  rintro e w' ⟨rfl, hb2⟩
  have hb3 := Lib.hid (hb.trans hb2)
  go_wp2_with fail
  go_ret
  exact ⟨rfl, hb3.out⟩

/-- What holds at each round's head of spaced. -/
def SR (l : List Int) (w : World) (i : Value) (wr : World) : Prop :=
  ∃ k : Nat, k ≤ l.length ∧ i = .int .i64 k ∧ Hid (Lib.IsBuilder 51 5 w.heap.size w.heap.size (Lib.byteCells (joinTo l k)) wr) ∧ Below w.heap.size w wr

set_option maxRecDepth 100000 in
set_option maxHeartbeats 1000000 in
theorem spaced_some (g off cap : Nat) (l : List Int) (w : World) (hl : l.length ≤ 60) (h0 : 0 < l.length) (hr : Hid (∀ x ∈ l, InI64 x)) (hg : g < w.heap.size) (hc : Hid (∀ i (h : i < l.length), w.cell? ⟨g, off + i, none⟩ = some (.int .i64 l[i]))) (ht : Hid (Tab w)) :
    Calls Tryd.prog 32 #[.slice (some ⟨g, off, none⟩) l.length cap] w fun e w' => e = .returned (.string ⟨(joinTo l l.length).toArray⟩) ∧ Below w.heap.size w w' := by
  go_enter Tryd.func32, Tryd.ntmps32
  go_wp2
  go_loopw [8] (fun i wr => SR l w i wr) (fun i _ => l.length - (intOf i).toNat)
  case atStart => exact ⟨0, Nat.zero_le _, rfl, Lib.hid (Lib.fresh_isBuilder 51 5 w), (Below.refl w.heap.size w).alloc (Nat.le_refl _) _⟩
  case round =>
    obtain ⟨k, hk, rfl, hI, hbel⟩ := hrel
    have hsz := hbel.size
    by_cases hlt : k < l.length
    · have hcell : wr.cell? ⟨g, off + k, none⟩ = some (.int .i64 l[k]) := (hbel.cell (p := ⟨g, off + k, none⟩) hg).trans (hc.out k hlt)
      obtain ⟨x, hx⟩ : ∃ x, l[k] = x := ⟨_, rfl⟩
      rw [hx] at hcell
      have hxr : InI64 x := hr.out x (hx ▸ List.getElem_mem _)
      have hnext : Hid (joinTo l (k + 1) = (if 0 < k then joinTo l k ++ [32] else joinTo l k) ++ Lib.itoa x) := Lib.hid (by
        rw [joinTo, List.getD_eq_getElem?_getD, List.getElem?_eq_getElem hlt, Option.getD_some, hx])
      have hlen := Lib.hid (join_len l hr.out k)
      have hil := Lib.hid (Lib.itoa_length_le x hxr.1 hxr.2)
      clear hx
      obtain ⟨t, ht0⟩ : ∃ t : ByteArray, t = ⟨(Lib.itoa x).toArray⟩ := ⟨_, rfl⟩
      have hT := Lib.hid ht0
      have htl : t.size ≤ 100 := by
        rw [ht0]; show (Lib.itoa x).toArray.size ≤ 100; rw [List.size_toArray]; have := hil.out; omega
      clear ht0
      have hx0 := hxr.1
      have hx1 := hxr.2
      clear hxr
      by_cases hk0 : 0 < k
      · go_wp2_with fail
        refine (writeByte_any _ _ _ _ _ hI.out ?_ hsz).mono ?_
        · rw [Lib.byteCells_length]; have := hlen.out; omega
        rintro e w1 ⟨rfl, hI1, hb1⟩
        have H1 := Lib.hid hI1
        have hbel1 := hbel.trans hb1
        have ht1 := Lib.hid (ht.out.below hbel1)
        clear hI1 hb1
        go_wp2_with fail
        refine (print_is x t _ hx0 hx1 hT ht1.out).mono ?_
        rintro e w2 ⟨rfl, hb2⟩
        have H2 := Lib.hid (builder_below H1.out hb2)
        have hbel2 := hbel1.trans (hb2.mono hbel1.size)
        clear hb2 hbel1
        go_wp2_with fail
        refine (writeString_any _ _ _ _ _ H2.out ?_ (by omega) hbel2.size).mono ?_
        · rw [List.length_append, Lib.byteCells_length]; have := hlen.out; simp; omega
        rintro e w3 ⟨rfl, hI3, hb3⟩
        have H3 : Hid (Lib.IsBuilder 51 5 w.heap.size w.heap.size (Lib.byteCells (joinTo l (k + 1))) w3) := Lib.hid (by
          rw [hnext.out, if_pos hk0, Lib.byteCells_append, Lib.byteCells_append]
          rw [hT.out] at hI3
          exact hI3)
        have hbel3 := hbel2.trans hb3
        clear hI3 hb3
        go_wp2_with fail
        go_roundw
        case rel => exact ⟨k + 1, hlt, by go_num, H3, hbel3⟩
        case measure => simp [intOf]; omega
      · go_wp2_with fail
        refine (print_is x t _ hx0 hx1 hT (ht.out.below hbel)).mono ?_
        rintro e w2 ⟨rfl, hb2⟩
        have H2 := Lib.hid (builder_below hI.out hb2)
        have hbel2 := hbel.trans (hb2.mono hsz)
        clear hb2
        go_wp2_with fail
        refine (writeString_any _ _ _ _ _ H2.out ?_ (by omega) hbel2.size).mono ?_
        · rw [Lib.byteCells_length]; have := hlen.out; omega
        rintro e w3 ⟨rfl, hI3, hb3⟩
        have H3 : Hid (Lib.IsBuilder 51 5 w.heap.size w.heap.size (Lib.byteCells (joinTo l (k + 1))) w3) := Lib.hid (by
          rw [hnext.out, if_neg hk0, Lib.byteCells_append]
          rw [hT.out] at hI3
          exact hI3)
        have hbel3 := hbel2.trans hb3
        clear hI3 hb3
        go_wp2_with fail
        go_roundw
        case rel => exact ⟨k + 1, hlt, by go_num, H3, hbel3⟩
        case measure => simp [intOf]; omega
    · obtain rfl : k = l.length := by omega
      go_wp2_with fail
      refine (Tryd.Builder_String_any _ _ _ _ hI.out hsz).mono ?_
      rintro e w1 ⟨rfl, hb1⟩
      have hb2 := Lib.hid (hbel.trans hb1)
      go_wp2_with fail
      go_ret
      exact ⟨rfl, hb2.out⟩

theorem spaced_any (v : Value) (l : List Int) (w : World) (hl : l.length ≤ 60) (h : IntsAt w v l) (ht : Tab w) :
    Calls Tryd.prog 32 #[v] w fun e w' => e = .returned (.string ⟨(joinTo l l.length).toArray⟩) ∧ Below w.heap.size w w' := by
  obtain ⟨a, cap, rfl, hr, hc⟩ := h
  by_cases h0 : 0 < l.length
  · obtain ⟨g, off, rfl, hg, hcell⟩ := hc h0
    exact spaced_some g off cap l w hl h0 (Lib.hid hr) hg (Lib.hid hcell) (Lib.hid ht)
  · rw [show l.length = 0 by omega]
    exact spaced_nil a cap w
set_option maxHeartbeats 400000 in
theorem join_is (v : Value) (l : List Int) (t : ByteArray) (w : World) (hl : l.length ≤ 60) (h : IntsAt w v l) (ht : Tab w) (hT : Hid (t = ⟨(joinTo l l.length).toArray⟩)) :
    Calls Tryd.prog 19 #[v] w fun e w' => e = .returned (.string t) ∧ Below w.heap.size w w' := by
  rw [hT.out]
  clear hT
  have H := Lib.hid h
  have HT := Lib.hid ht
  clear h ht
  go_enter Tryd.func19, Tryd.ntmps19
  go_wp2_with fail
  refine (spaced_any v l _ hl H.out HT.out).mono ?_
  rintro e w1 ⟨rfl, hb1⟩
  go_wp2_with fail
  go_ret
  exact ⟨rfl, hb1⟩

set_option maxRecDepth 100000 in
set_option maxHeartbeats 400000 in
theorem refJoin_nil (a : Option Addr) (cap : Nat) (w : World) : Calls Tryd.prog 20 #[.slice a 0 cap] w fun e w' => e = .returned (.string ⟨#[]⟩) ∧ w = w' := by
  go_enter Tryd.func20, Tryd.ntmps20
  go_wp2
  refine wp_loop_rounds 1 ?_
  rw [rounds_succ]
  go_wp2_with fail
  go_ret
  exact ⟨rfl, rfl⟩
/-- What holds at each round's head of the reference's Join. -/
def JR (l : List Int) (s i : Value) : Prop :=
  ∃ (k : Nat) (t : ByteArray), k ≤ l.length ∧ i = .int .i64 k ∧ s = .string t ∧ t.size ≤ 22 * k ∧ Hid (t = ⟨(joinTo l k).toArray⟩)
set_option maxRecDepth 100000 in
set_option maxHeartbeats 1000000 in
theorem refJoin_some (g off cap : Nat) (l : List Int) (w : World) (hl : l.length ≤ 60) (hr : Hid (∀ x ∈ l, InI64 x)) (hc : Hid (∀ i (h : i < l.length), w.cell? ⟨g, off + i, none⟩ = some (.int .i64 l[i]))) :
    Calls Tryd.prog 20 #[.slice (some ⟨g, off, none⟩) l.length cap] w fun e w' => e = .returned (.string ⟨(joinTo l l.length).toArray⟩) ∧ w = w' := by
  go_enter Tryd.func20, Tryd.ntmps20
  go_wp2
  go_loop [3, 4] (fun s i => JR l s i) (fun _ i => l.length - (intOf i).toNat)
  case atStart => exact ⟨0, ⟨#[]⟩, Nat.zero_le _, rfl, rfl, by decide, Lib.hid rfl⟩
  case round =>
    obtain ⟨k, q, hk, rfl, rfl, hq, hQ⟩ := hrel
    by_cases hlt : k < l.length
    · have hcell : w.cell? ⟨g, off + k, none⟩ = some (.int .i64 l[k]) := hc.out k hlt
      obtain ⟨x, hx⟩ : ∃ x, l[k] = x := ⟨_, rfl⟩
      rw [hx] at hcell
      have hxr : InI64 x := hr.out x (hx ▸ List.getElem_mem _)
      have hnext : Hid (joinTo l (k + 1) = (if 0 < k then joinTo l k ++ [32] else joinTo l k) ++ Lib.itoa x) := Lib.hid (by
        rw [joinTo, List.getD_eq_getElem?_getD, List.getElem?_eq_getElem hlt, Option.getD_some, hx])
      clear hx
      have hx0 := hxr.1
      have hx1 := hxr.2
      clear hxr
      obtain ⟨t, ht0⟩ : ∃ t : ByteArray, t = ⟨(Lib.itoa x).toArray⟩ := ⟨_, rfl⟩
      have hT := Lib.hid ht0
      have htl : t.size ≤ 21 := by
        rw [ht0]; show (Lib.itoa x).toArray.size ≤ 21; rw [List.size_toArray]; exact Lib.itoa_length_le x hx0 hx1
      clear ht0
      by_cases hk0 : 0 < k
      · go_wp2_with fail
        refine (refPrint_is x t _ hx0 hx1 hT).mono ?_
        rintro e w1 ⟨rfl, rfl⟩
        go_wp2_with fail
        refine ⟨⟨k + 1, q ++ ⟨#[32]⟩ ++ t, hlt, by go_num, rfl, ?_, Lib.hid ?_⟩, by simp [intOf]; omega⟩
        · rw [ByteArray.size_append, ByteArray.size_append]; show q.size + 1 + t.size ≤ _; omega
        · rw [hnext.out, if_pos hk0, hQ.out, hT.out]
          rw [show (ByteArray.mk #[32]) = ⟨([32] : List UInt8).toArray⟩ from rfl, mk_append, mk_append]
      · go_wp2_with fail
        refine (refPrint_is x t _ hx0 hx1 hT).mono ?_
        rintro e w1 ⟨rfl, rfl⟩
        go_wp2_with fail
        refine ⟨⟨k + 1, q ++ t, hlt, by go_num, rfl, ?_, Lib.hid ?_⟩, by simp [intOf]; omega⟩
        · rw [ByteArray.size_append]; omega
        · rw [hnext.out, if_neg hk0, hQ.out, hT.out, mk_append]
    · obtain rfl : k = l.length := by omega
      go_wp2_with fail
      go_ret
      exact ⟨ret_str hQ.out, rfl⟩
theorem refJoin_is (v : Value) (l : List Int) (t : ByteArray) (w : World) (hl : l.length ≤ 60) (h : IntsAt w v l) (hT : Hid (t = ⟨(joinTo l l.length).toArray⟩)) :
    Calls Tryd.prog 20 #[v] w fun e w' => e = .returned (.string t) ∧ w = w' := by
  rw [hT.out]
  obtain ⟨a, cap, rfl, hr, hc⟩ := h
  by_cases h0 : 0 < l.length
  · obtain ⟨g, off, rfl, _, hcell⟩ := hc h0
    exact refJoin_some g off cap l w hl (Lib.hid hr) (Lib.hid hcell)
  · rw [show l.length = 0 by omega]
    exact refJoin_nil a cap w

set_option maxRecDepth 100000 in
set_option maxHeartbeats 400000 in
theorem same_nil (a1 a2 : Option Addr) (c1 c2 : Nat) (w : World) : Calls Tryd.prog 21 #[.slice a1 0 c1, .slice a2 0 c2] w fun e w' => e = .returned (.bool true) ∧ Below w.heap.size w w' := by
  go_enter Tryd.func21, Tryd.ntmps21
  go_wp2
  refine wp_loop_rounds 1 ?_
  rw [rounds_succ]
  go_wp2
  go_ret
  exact ⟨rfl, Below.refl _ _⟩
set_option maxRecDepth 100000 in
set_option maxHeartbeats 400000 in
theorem same_some (g1 o1 c1 g2 o2 c2 : Nat) (l : List Int) (w : World) (hl : l.length ≤ 100000) (hg1 : g1 < w.heap.size) (hg2 : g2 < w.heap.size)
    (h1 : Hid (∀ i (hi : i < l.length), w.cell? ⟨g1, o1 + i, none⟩ = some (.int .i64 l[i]))) (h2 : Hid (∀ i (hi : i < l.length), w.cell? ⟨g2, o2 + i, none⟩ = some (.int .i64 l[i]))) :
    Calls Tryd.prog 21 #[.slice (some ⟨g1, o1, none⟩) l.length c1, .slice (some ⟨g2, o2, none⟩) l.length c2] w fun e w' => e = .returned (.bool true) ∧ Below w.heap.size w w' := by
  go_enter Tryd.func21, Tryd.ntmps21
  go_wp2
  go_loopw [5] (fun i wr => ∃ k : Nat, k ≤ l.length ∧ i = .int .i64 k ∧ Below w.heap.size w wr) (fun i _ => l.length - (intOf i).toNat)
  case atStart => exact ⟨0, Nat.zero_le _, rfl, Below.refl _ _⟩
  case round =>
    obtain ⟨k, hk, rfl, hbel⟩ := hrel
    by_cases hlt : k < l.length
    · have q1 : wr.cell? ⟨g1, o1 + k, none⟩ = some (.int .i64 l[k]) := (hbel.cell (p := ⟨g1, o1 + k, none⟩) hg1).trans (h1.out k hlt)
      have q2 : wr.cell? ⟨g2, o2 + k, none⟩ = some (.int .i64 l[k]) := (hbel.cell (p := ⟨g2, o2 + k, none⟩) hg2).trans (h2.out k hlt)
      have b0 : (0 : Int) ≤ (k : Int) := by omega
      have b1 : (k : Int) < (l.length : Int) := by omega
      go_wp2_with fail
      go_quiet (fail)
      go_wp2
      go_roundw
      case rel => exact ⟨k + 1, by omega, by go_num, below_drewN hbel _⟩
      case measure => simp [intOf]; omega
    · go_wp2_with fail
      go_ret
      exact ⟨rfl, hbel⟩
theorem same_any (v1 v2 : Value) (l : List Int) (w : World) (hl : l.length ≤ 100000) (h1 : IntsAt w v1 l) (h2 : IntsAt w v2 l) :
    Calls Tryd.prog 21 #[v1, v2] w fun e w' => e = .returned (.bool true) ∧ Below w.heap.size w w' := by
  obtain ⟨a1, c1, rfl, _, k1⟩ := h1
  obtain ⟨a2, c2, rfl, _, k2⟩ := h2
  by_cases h0 : 0 < l.length
  · obtain ⟨g1, o1, rfl, hg1, q1⟩ := k1 h0
    obtain ⟨g2, o2, rfl, hg2, q2⟩ := k2 h0
    exact same_some g1 o1 c1 g2 o2 c2 l w hl hg1 hg2 (Lib.hid q1) (Lib.hid q2)
  · rw [show l.length = 0 by omega]
    exact same_nil a1 a2 c1 c2 w
end Go.Proofs.YtmfofgakenpnaaaDoor
