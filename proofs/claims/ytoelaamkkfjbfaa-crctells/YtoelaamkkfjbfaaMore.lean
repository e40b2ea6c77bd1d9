/- The contracts of More and Sum of package crc. -/
import Derived.Test.YtoelaamkkfjbfaaTab
namespace Go.Proofs.Ytoelaamkkfjbfaa
open Go.RowKit

theorem row_tab (w : World) : (w.alloc (.cells tab 34)).rowIs w.heap.size 34 256 (fun j => .int .u16 (restI j)) := by
  rw [← tab_size]
  exact World.rowIs_alloc w tab 34 _ (fun i hi => tab_at i (by rw [tab_size] at hi; exact hi))
theorem byte_more (v : BitVec 16) (x t : Int) (c : Int) (j : Nat) (h0 : 0 ≤ c) (h1 : c < 256) (hx : S v = x) (hj : bits .xor .u8 (x / 256) c = (j : Int)) (ht : restI j = t) : bits .xor .u16 (IntKind.u16.wrap (x * 256)) t = S (C.byte v c.toNat) := by
  have h := byte_spell v c.toNat (by omega)
  rw [hx, show ((c.toNat : Nat) : Int) = c by omega, hj, Int.toNat_natCast, ht] at h
  exact h
theorem idx_more (v : BitVec 16) (x : Int) (c : Int) (h0 : 0 ≤ c) (h1 : c < 256) (hx : S v = x) : ∃ j : Nat, bits .xor .u8 (x / 256) c = (j : Int) ∧ j < 256 := by
  have h := idx_range v c.toNat (by omega)
  rw [hx, show ((c.toNat : Nat) : Int) = c by omega] at h
  exact h
set_option maxRecDepth 100000 in
theorem more_some (g off cap : Nat) (l : List Int) (v : BitVec 16) (s r : Int) (w : World) (hl : l.length ≤ 1000) (hg : g < w.heap.size) (hb : Hid (M.Bytes l)) (hc : Hid (∀ i (h : i < l.length), w.cell? ⟨g, off + i, none⟩ = some (.int .u8 l[i])))
    (hs : Hid (S v = s)) (hr : Hid (S (after v l) = r)) :
    Calls Try.prog 9 #[.int .u16 s, .slice (some ⟨g, off, none⟩) l.length cap] w fun e w' => e = .returned (.int .u16 r) ∧ Below w.heap.size w w' := by
  obtain ⟨zs, hz, hzn, hzi⟩ := zero34
  have HN := Lib.hid hzn
  clear hzi hzn
  go_enter Try.func9, Try.ntmps9
  go_wp2_with fail
  refine (tab_is _).mono ?_
  rintro e w1 ⟨rfl, b1⟩
  go_wp2_with (refine wpList_store_row rfl 34 _ _ rfl w1.heap.size tab rfl rfl 34 zs (heap_alloc_last w1 _) (by rw [tab_size]; exact size34) (by rw [HN.out, tab_size]) tab_one ?_)
  obtain ⟨W, hW⟩ : ∃ W, W = (w1.alloc (.cells zs 34)).setRow w1.heap.size tab := ⟨_, rfl⟩
  rw [← hW]
  rw [World.setRow_alloc_new] at hW
  have HT := Lib.hid (show W.rowIs w1.heap.size 34 256 (fun j => .int .u16 (restI j)) by rw [hW]; exact row_tab w1)
  have hB : Below w.heap.size w W := by rw [hW]; exact b1.alloc b1.size _
  have hgb : w.heap.size ≤ w1.heap.size := b1.size
  clear hW hz b1
  go_loopw [0, 11] (fun x i wr => ∃ k : Nat, k ≤ l.length ∧ i = .int .i64 k ∧ x = .int .u16 (S (after v (l.take k))) ∧ wr = W) (fun _ i _ => l.length - (intOf i).toNat)
  case atStart => exact ⟨0, Nat.zero_le _, rfl, by rw [after_zero, hs.out], rfl⟩
  case round =>
    obtain ⟨k, hk, rfl, rfl, rfl⟩ := hrel
    by_cases hlt : k < l.length
    · obtain ⟨x, hx⟩ : ∃ x, S (after v (l.take k)) = x := ⟨_, rfl⟩
      have hrg := S_range (after v (l.take k))
      have hbk := hb.out.at_ k hlt
      have hnx := after_succ v l k hlt
      have q1 : wr.cell? ⟨g, off + k, none⟩ = some (.int .u8 l[k]) := (hB.cell (p := ⟨g, off + k, none⟩) hg).trans (hc.out k hlt)
      generalize l[k] = c at hbk hnx q1
      obtain ⟨hc0, hc1⟩ := hbk
      obtain ⟨j, hj, hj256⟩ := idx_more _ x c hc0 hc1 hx
      obtain ⟨t, ht⟩ : ∃ t, restI j = t := ⟨_, rfl⟩
      have q2 := HT.out.cell hj256
      rw [ht] at q2
      have H := Lib.hid (byte_more _ x t c j hc0 hc1 hx hj ht)
      have HX := Lib.hid hnx
      rw [hx] at hrg ⊢
      obtain ⟨hx0, hx1⟩ := hrg
      clear hx ht hnx
      go_wp2_with fail
      go_roundw
      case rel => exact ⟨k + 1, by omega, by go_num, by rw [HX.out]; exact congrArg (Value.int .u16) H.out, trivial⟩
      case measure => simp [intOf]; omega
    · obtain rfl : k = l.length := by omega
      rw [List.take_length]
      go_wp2_with fail
      go_ret
      exact ⟨ret_int hr.out, hB⟩
set_option maxRecDepth 100000 in
theorem more_none (a : Option Addr) (cap : Nat) (s : Int) (w : World) :
    Calls Try.prog 9 #[.int .u16 s, .slice a 0 cap] w fun e w' => e = .returned (.int .u16 s) ∧ Below w.heap.size w w' := by
  obtain ⟨zs, hz, hzn, hzi⟩ := zero34
  have HN := Lib.hid hzn
  clear hzi hzn
  go_enter Try.func9, Try.ntmps9
  go_wp2_with fail
  refine (tab_is _).mono ?_
  rintro e w1 ⟨rfl, b1⟩
  go_wp2_with (refine wpList_store_row rfl 34 _ _ rfl w1.heap.size tab rfl rfl 34 zs (heap_alloc_last w1 _) (by rw [tab_size]; exact size34) (by rw [HN.out, tab_size]) tab_one ?_)
  rw [World.setRow_alloc_new]
  refine wp_loop_rounds 1 ?_
  rw [rounds_succ]
  go_wp2_with fail
  go_ret
  exact ⟨rfl, b1.alloc b1.size _⟩
theorem more_is (u : Value) (l : List Int) (v : BitVec 16) (s r : Int) (w : World) (h : BytesAt w u l) (hl : l.length ≤ 1000) (hs : Hid (S v = s)) (hr : Hid (S (after v l) = r)) :
    Calls Try.prog 9 #[.int .u16 s, u] w fun e w' => e = .returned (.int .u16 r) ∧ Below w.heap.size w w' := by
  obtain ⟨a, cap, rfl, _, hb, hc⟩ := h
  by_cases h0 : 0 < l.length
  · obtain ⟨g, off, rfl, hg, hcell⟩ := hc h0
    exact more_some g off cap l v s r w hl hg (Lib.hid hb) (Lib.hid hcell) hs hr
  · obtain rfl : l = [] := List.eq_nil_of_length_eq_zero (by omega)
    obtain rfl : s = r := by rw [← hs.out, ← hr.out]; rfl
    exact more_none a cap s w
theorem start_S : S 0xffff#16 = 65535 := by decide
theorem sum_is (u : Value) (l : List Int) (r : Int) (w : World) (h : BytesAt w u l) (hl : l.length ≤ 1000) (hr : Hid (S (sumV l) = r)) :
    Calls Try.prog 7 #[u] w fun e w' => e = .returned (.int .u16 r) ∧ Below w.heap.size w w' := by
  have H := Lib.hid h
  clear h
  go_enter Try.func7, Try.ntmps7
  go_wp2_with fail
  refine (more_is u l 0xffff#16 65535 r _ H.out hl (Lib.hid start_S) hr).mono ?_
  rintro e w' ⟨rfl, b⟩
  go_wp2_with fail
  go_ret
  exact ⟨rfl, b⟩
end Go.Proofs.Ytoelaamkkfjbfaa
