/- Pieces as values and in memory; the contracts of Large of the reference and of write of the law. -/
import Derived.Test.YtieeggdmmnhbjaaWriterB
namespace Go.Proofs.Ytieeggdmmnhbjaa
open Go.RowKit

/-- A piece: what its fields hold. -/
structure Pc where
  d : Int
  x : Int
  c : Int
  m : List Int
  v : Value
  n : Int
  b : List Int
def Pc.cells (p : Pc) : List Value := .int .i64 p.d :: .int .u64 p.x :: .int .u8 p.c :: (p.m.map (Value.int .u8) ++ [p.v, .int .i64 p.n])
structure Pc.Ok (p : Pc) (w : World) : Prop where
  ml : p.m.length = 8
  mb : M.Bytes p.m
  x0 : 0 ≤ p.x
  x1 : p.x < 18446744073709551616
  c0 : 0 ≤ p.c
  c1 : p.c < 256
  n1 : p.n < 9223372036854775808
  vb : BytesAt w p.v p.b
theorem Pc.Ok.below {p : Pc} {w w' : World} (h : p.Ok w) (hb : Below w.heap.size w w') : p.Ok w' := ⟨h.ml, h.mb, h.x0, h.x1, h.c0, h.c1, h.n1, h.vb.below hb⟩
theorem cells_len {p : Pc} (h : p.m.length = 8) : p.cells.length = 13 := by simp [Pc.cells, h]
theorem cells0 (p : Pc) : p.cells[0]? = some (.int .i64 p.d) := rfl
theorem cells1 (p : Pc) : p.cells[1]? = some (.int .u64 p.x) := rfl
theorem cells2 (p : Pc) : p.cells[2]? = some (.int .u8 p.c) := rfl
theorem cells11 {p : Pc} (h : p.m.length = 8) : p.cells[11]? = some p.v := by simp [Pc.cells, h]
theorem cells12 {p : Pc} (h : p.m.length = 8) : p.cells[12]? = some (.int .i64 p.n) := by simp [Pc.cells, h]
theorem cells_name {p : Pc} (h : p.m.length = 8) (j : Nat) (hj : j < 8) : p.cells[3 + j]? = some (.int .u8 (p.m[j]'(by omega))) := by
  rw [show 3 + j = j + 3 by omega]
  simp only [Pc.cells, List.getElem?_cons_succ]
  rw [List.getElem?_append_left (by simp; omega), List.getElem?_map, List.getElem?_eq_getElem (by omega)]
  rfl
theorem range_name {w : World} {g o : Nat} {p : Pc} (hr : w.rangeAt g o p.cells) (h : p.m.length = 8) : w.rangeAt g (o + 3) (p.m.map (Value.int .u8)) := fun j v hv => by
  have hj : j < 8 := by
    have := (List.getElem?_eq_some_iff.1 hv).1
    simpa [h] using this
  rw [Nat.add_assoc, hr (3 + j) _ (cells_name h j hj)]
  rw [List.getElem?_map, List.getElem?_eq_getElem (by omega)] at hv
  exact hv
theorem info33 : (Try.prog.info? 33).map (·.size) = some 13 := by kernel_rfl
theorem size33 {p : Pc} (h : p.m.length = 8) : (Try.prog.info? 33).map (·.size) = some p.cells.length := by rw [cells_len h]; exact info33
theorem one33 {p : Pc} (hv : p.v.oneCell' = true) : p.cells.toArray.all (·.oneCell') = true := by
  refine all_oneCell_toArray fun v hm => ?_
  unfold Pc.cells at hm
  rcases List.mem_cons.1 hm with rfl | hm
  · rfl
  · rcases List.mem_cons.1 hm with rfl | hm
    · rfl
    · rcases List.mem_cons.1 hm with rfl | hm
      · rfl
      · rcases List.mem_append.1 hm with hm | hm
        · obtain ⟨y, _, rfl⟩ := List.mem_map.1 hm; rfl
        · rcases List.mem_cons.1 hm with rfl | hm
          · exact hv
          · obtain rfl := List.mem_singleton.1 hm; rfl
/-- The slice v holds the pieces ps. -/
def PsAt (w : World) (v : Value) (ps : List Pc) : Prop :=
  (∃ a cap, v = .slice a ps.length cap ∧ ps.length ≤ cap ∧ (0 < ps.length → ∃ G off, a = some ⟨G, off, none⟩ ∧ G < w.heap.size ∧ ∀ i (h : i < ps.length), w.rangeAt G (off + i * 13) ps[i].cells)) ∧ ∀ p ∈ ps, p.Ok w
theorem range_below {w w' : World} {g o : Nat} {cs : List Value} (h : w.rangeAt g o cs) (hg : g < w.heap.size) (hb : Below w.heap.size w w') : w'.rangeAt g o cs := fun j v hv => (hb.cell (p := ⟨g, o + j, none⟩) hg).trans (h j v hv)
theorem PsAt.below {w w' : World} {v : Value} {ps : List Pc} (h : PsAt w v ps) (hb : Below w.heap.size w w') : PsAt w' v ps := by
  obtain ⟨⟨a, cap, hv, hc, h0⟩, hok⟩ := h
  refine ⟨⟨a, cap, hv, hc, fun hl => ?_⟩, fun p hp => (hok p hp).below hb⟩
  obtain ⟨G, off, ha, hG, hr⟩ := h0 hl
  exact ⟨G, off, ha, Nat.lt_of_lt_of_le hG hb.size, fun i hi => range_below (hr i hi) hG hb⟩
/-- Are pieces few, and their bytes? -/
def Few (ps : List Pc) : Prop := ps.length ≤ 40 ∧ ∀ p ∈ ps, p.b.length ≤ 60
def LargeSays (ps : List Pc) (w : World) (e : Ending) (w' : World) : Prop := w = w' ∧ (e = .returned (.bool true) ∨ (e = .returned (.bool false) ∧ Few ps))
theorem large_nil (a : Option Addr) (cap : Nat) (w : World) : Calls Try.prog 6 #[.slice a 0 cap] w fun e w' => e = .returned (.bool false) ∧ w = w' := by
  go_enter Try.func6, Try.ntmps6
  go_wp2
  refine wp_loop_rounds 1 ?_
  rw [rounds_succ]
  go_wp2_with fail
  go_ret
  exact ⟨rfl, rfl⟩
theorem large_some (G off cap : Nat) (ps : List Pc) (w : World) (hr : Hid (∀ i (h : i < ps.length), w.rangeAt G (off + i * 13) ps[i].cells)) (hok : Hid (∀ p ∈ ps, p.Ok w)) :
    Calls Try.prog 6 #[.slice (some ⟨G, off, none⟩) ps.length cap] w (LargeSays ps w) := by
  go_enter Try.func6, Try.ntmps6
  go_wp2
  go_loop [3] (fun i => ∃ k : Nat, k ≤ ps.length ∧ k ≤ 40 ∧ i = .int .i64 k ∧ Hid (∀ j (h : j < ps.length), j < k → ps[j].b.length ≤ 60)) (fun i => ps.length - (intOf i).toNat)
  case atStart => exact ⟨0, Nat.zero_le _, by omega, rfl, Lib.hid fun j _ h => by omega⟩
  case round =>
    obtain ⟨k, hk, hk40, rfl, hall⟩ := hrel
    by_cases hlt : k < ps.length
    · by_cases h40 : k < 40
      · have hp := hok.out _ (List.getElem_mem hlt)
        obtain ⟨a', cap', hv, -⟩ := hp.vb
        obtain ⟨n, hn⟩ : ∃ n, (ps[k].b).length = n := ⟨_, rfl⟩
        have q := hr.out k hlt 11 _ (cells11 hp.ml)
        rw [hv, hn] at q
        have HN := Lib.hid hn
        have b0 : (0 : Int) ≤ (k : Int) := by omega
        have b1 : (k : Int) < (ps.length : Int) := by omega
        have b2 : (k : Int) < 40 := by omega
        clear hp hv hn
        by_cases h60 : 60 < n
        · have b3 : (60 : Int) < (n : Int) := by omega
          go_wp2_with fail
          go_ret
          exact ⟨rfl, .inl rfl⟩
        · have b3 : ¬ (60 : Int) < (n : Int) := by omega
          go_wp2_with fail
          go_round
          case rel => exact ⟨k + 1, by omega, by omega, by go_num, Lib.hid fun j h hj => by
            by_cases e : j = k
            · subst e; rw [HN.out]; omega
            · exact hall.out j h (by omega)⟩
          case measure => simp [intOf]; omega
      · obtain rfl : k = 40 := by omega
        have b1 : (40 : Int) < (ps.length : Int) := by omega
        go_wp2_with fail
        go_ret
        exact ⟨rfl, .inl rfl⟩
    · obtain rfl : k = ps.length := by omega
      have b1 : ¬ (40 : Int) < (ps.length : Int) := by omega
      go_wp2_with fail
      go_ret
      exact ⟨rfl, .inr ⟨rfl, hk40, fun p hp => by
        obtain ⟨j, hj, rfl⟩ := List.getElem_of_mem hp
        exact hall.out j hj hj⟩⟩
theorem large_is (v : Value) (ps : List Pc) (w : World) (h : PsAt w v ps) : Calls Try.prog 6 #[v] w (LargeSays ps w) := by
  obtain ⟨⟨a, cap, rfl, hc, h0⟩, hok⟩ := h
  by_cases hl : 0 < ps.length
  · obtain ⟨G, off, rfl, _, hr⟩ := h0 hl
    exact large_some G off cap ps w (Lib.hid hr) (Lib.hid hok)
  · obtain rfl : ps = [] := List.eq_nil_of_length_eq_zero (by omega)
    exact (large_nil a cap w).mono fun e w' ⟨he, hw⟩ => ⟨hw, .inr ⟨he, by simp, fun p hp => by cases hp⟩⟩
end Go.Proofs.Ytieeggdmmnhbjaa
