/- The walk of KeyBack. -/
import Derived.Test.YtkjiehifnkkelaaLaws
import Derived.Test.YtkjiehifnkkelaaKLess
import Derived.Test.YtkjiehifnkkelaaKFroms
import Derived.Test.YtkjiehifnkkelaaKRead
import Derived.Test.YtkjiehifnkkelaaWriterK
namespace Go.Proofs.Ytkjiehifnkkelaa
open Go.RowKit

theorem kenc_len {k : Ky} (h : k.Ok) : (kenc k).length ≤ 40 := by
  have h1 := M.var_ten k.c h.c0 (by have := h.c1; omega)
  have h2 := M.var_ten k.q h.q0 (by have := h.q1; omega)
  have h3 : (M.text k.m).length ≤ 8 := h.ml ▸ M.text_len k.m
  unfold kenc
  split
  · simp; omega
  · split <;> simp <;> omega
theorem kenc_bytes {k : Ky} (h : k.Ok) : M.Bytes (kenc k) := by
  have h3 : (M.text k.m).length ≤ 8 := h.ml ▸ M.text_len k.m
  have hs : M.Bytes [k.s] := fun y hy => by obtain rfl := List.mem_singleton.1 hy; exact ⟨h.s0, h.s1⟩
  have hr : M.Bytes [k.r] := fun y hy => by obtain rfl := List.mem_singleton.1 hy; exact ⟨h.r0, h.r1⟩
  have hn : M.Bytes ([] : List Int) := fun y hy => by cases hy
  have ht : M.Bytes (((M.text k.m).length : Int) :: M.text k.m) := fun y hy => by
    rcases List.mem_cons.1 hy with rfl | hy
    · omega
    · exact M.text_bytes h.mb y hy
  unfold kenc
  refine hs.app ((M.var_bytes _ h.c0).app ?_)
  split
  · exact hn
  · refine ht.app (hr.app ?_)
    split
    · exact M.var_bytes _ h.q0
    · exact hn
def Holds_ (w : World) (e : Ending) (w' : World) : Prop := e = .returned (.bool true) ∧ Below w.heap.size w w'
theorem kb_long (a b : Ky) (ad : Option Addr) (n cap : Nat) (w : World) (hn : 60 < n) : Calls Try.prog 6 #[.agg a.cells.toArray, .agg b.cells.toArray, .slice ad n cap] w (Holds_ w) := by
  have k1 : (60 : Int) < (n : Int) := by omega
  have B0 := Lib.hid (step_ (new_below w (.cells a.cells.toArray 27)) (new_below _ (.cells b.cells.toArray 27)))
  clear hn
  go_enter Try.func6, Try.ntmps6
  go_wp2_with fail
  refine (alive_is _).mono ?_
  rintro e w1 ⟨rfl, b1⟩
  have B1 := Lib.hid (step_ B0.out b1)
  clear b1
  go_wp2_with fail
  go_ret
  exact ⟨rfl, B1.out⟩
/-- What holds of every world of the last region. -/
structure BS (w : World) (A : Ky) (g9 : Nat) (W : World) : Prop where
  bel : Below w.heap.size w W
  one : Blk W w.heap.size 27 A.cells
  two : Blk W g9 27 A.cells
theorem BS.drew {w : World} {A : Ky} {g : Nat} {W : World} (h : BS w A g W) : BS w A g W.drew := ⟨below_drew h.bel, h.one.drew, h.two.drew⟩
theorem BS.below {w : World} {A : Ky} {g : Nat} {W W' : World} (h : BS w A g W) (hb : Below W.heap.size W W') : BS w A g W' := ⟨step_ h.bel hb, h.one.below hb, h.two.below hb⟩
theorem BS.only {w : World} {A : Ky} {g x : Nat} {W W' : World} (h : BS w A g W) (ho : Only x W W') (h1 : w.heap.size < x) (h2 : g ≠ x) : BS w A g W' := ⟨h.bel.trans (ho.below (Nat.le_of_lt h1) h.bel.size), h.one.only ho (Nat.ne_of_lt h1), h.two.only ho h2⟩
set_option maxRecDepth 100000 in
set_option maxHeartbeats 4000000 in
theorem kb_false (a b : Ky) (ad : Option Addr) (l : List Int) (cap : Nat) (w : World) (ha : a.Ok) (hb : b.Ok) (hl : BytesAt w (.slice ad l.length cap) l) (hn : l.length ≤ 60) (hr : a.right = false) : Calls Try.prog 6 #[.agg a.cells.toArray, .agg b.cells.toArray, .slice ad l.length cap] w (Holds_ w) := by
  have hz2 := zero27
  have k1 : ¬ (60 : Int) < (l.length : Int) := by omega
  have HA := Lib.hid ha
  have HB := Lib.hid hb
  have HV := Lib.hid hl
  have HN := Lib.hid hn
  have HR := Lib.hid hr
  have A0 := Lib.hid ((blk_alloc w 27 a.cells).alloc (.cells b.cells.toArray 27))
  have C0 := Lib.hid (blk2 w (.cells a.cells.toArray 27) 27 b.cells)
  have B0 := Lib.hid (step_ (new_below w (.cells a.cells.toArray 27)) (new_below _ (.cells b.cells.toArray 27)))
  have HT := Lib.hid (less_total ha hb)
  have HD := Lib.hid (less_both (a := a) (b := b))
  have HQ := Lib.hid (words_eq ha hb)
  clear ha hb hl hn hr
  go_enter Try.func6, Try.ntmps6
  go_wp2_with fail
  refine Code.wp_mono (Q := fun e act W => e = .normal ∧ Below ((w.alloc (.cells a.cells.toArray 27)).alloc (.cells b.cells.toArray 27)).heap.size ((w.alloc (.cells a.cells.toArray 27)).alloc (.cells b.cells.toArray 27)) W ∧ ∃ x15 x16 x17 x18 x19 x20 x21 x22 x23 x24 x25 x26 x27 x28 x29 x30 x31 x32 x33 x34 x35 x36 x37 x38 x39 x40 x41 x42 x43 x44 x45 x46 x47 x48, act = (⟨#[.agg a.cells.toArray, .agg b.cells.toArray, .slice ad l.length cap, .pointer (some ⟨w.heap.size, 0, none⟩), .pointer (some ⟨w.heap.size + 1, 0, none⟩), undef, .bool false, undef, undef, undef, undef, .slice ad l.length cap, .int .i64 (l.length : Int), .bool false, undef, x15, x16, x17, x18, x19, x20, x21, x22, x23, x24, x25, x26, x27, x28, x29, x30, x31, x32, x33, x34, x35, x36, x37, x38, x39, x40, x41, x42, x43, x44, x45, x46, x47, x48, .bool false, undef, undef, undef, undef, undef, undef, undef, undef, undef, undef, undef, undef, undef, undef, undef, undef, undef, undef, undef, undef, undef, undef, undef, undef, undef, undef, undef, undef, undef, undef, undef, undef, undef, undef, undef, undef, undef, undef, undef, undef, undef, undef, undef, undef, undef, undef, undef, undef, undef], []⟩ : Act)) ?_ ?_
  rotate_left
  · obtain ⟨L, hL⟩ : ∃ L, a.less b = L := ⟨_, rfl⟩
    obtain ⟨M, hM⟩ : ∃ M, b.less a = M := ⟨_, rfl⟩
    obtain ⟨E, hE⟩ : ∃ E, decide (a = b) = E := ⟨_, rfl⟩
    have HL := Lib.hid hL
    have HM := Lib.hid hM
    have HE := Lib.hid hE
    have HW := Lib.hid (show same3 a.w0 a.w1 a.w2 b.w0 b.w1 b.w2 = E by rw [← hE]; exact HQ.out)
    have hT := HT.out
    have hD := HD.out
    rw [hL, hM, hE] at hT
    rw [hL, hM] at hD
    subst hT
    clear hL hM hE
    cases L with
    | true =>
      cases M with
      | true => cases hD
      | false =>
        clear hD
        have HE : Hid (decide (a = b) = false) := HE
        have HW : Hid (same3 a.w0 a.w1 a.w2 b.w0 b.w1 b.w2 = false) := HW
        refine region_later (by kernel_rfl) (by kernel_rfl) ?_
        (go_big_quiet_want; refine quiet_load_ky w.heap.size a _ rfl rfl A0.out HA.out.ml ?_; go_simp; go_big_quiet_on)
        (go_big_quiet_want; refine quiet_load_ky (w.heap.size + 1) b _ rfl rfl C0.out HB.out.ml ?_; go_simp; go_big_quiet_on)
        go_big_quiet_step (exact later_call (less_is a b true _ HA.out HB.out HL))
        go_big_quiet_step (fail)
        (go_big_quiet_want; refine quiet_load_ky (w.heap.size + 1) b _ rfl rfl C0.out HB.out.ml ?_; go_simp; go_big_quiet_on)
        (go_big_quiet_want; refine quiet_load_ky w.heap.size a _ rfl rfl A0.out HA.out.ml ?_; go_simp; go_big_quiet_on)
        go_big_quiet_step (exact later_call (less_is b a false _ HB.out HA.out HM))
        go_big_quiet_step (fail)
        go_big_quiet_step (fail)
        (go_big_quiet_want; refine quiet_load_ky w.heap.size a _ rfl rfl A0.out HA.out.ml ?_; go_simp; go_big_quiet_on)
        (go_big_quiet_want; refine quiet_load_ky (w.heap.size + 1) b _ rfl rfl C0.out HB.out.ml ?_; go_simp; go_big_quiet_on)
        go_big_quiet_step (exact later_call (less_is a b true _ HA.out HB.out HL))
        go_big_quiet_step (fail)
        go_big_quiet_step (fail)
        go_big_quiet_step (fail)
        go_big_quiet_step (fail)
        go_big_quiet_step (fail)
        go_big_quiet_step (fail)
        go_big_quiet_step (fail)
        (go_big_quiet_want; refine quiet_load_ky w.heap.size a _ rfl rfl A0.out HA.out.ml ?_; go_simp; go_big_quiet_on)
        (go_big_quiet_want; refine quiet_load_ky (w.heap.size + 1) b _ rfl rfl C0.out HB.out.ml ?_; go_simp; go_big_quiet_on)
        (go_big_quiet_want; refine quiet_val (.bool false) (fun W => HE.out ▸ exec_eq_ky _ _ _ rfl a b rfl rfl HA.out.ml HB.out.ml) ?_; go_simp; go_big_quiet_on)
        go_big_quiet_step (fail)
        go_big_quiet_step (fail)
        go_big_quiet_step (fail)
        (go_big_quiet_want; refine quiet_load_ky w.heap.size a _ rfl rfl A0.out HA.out.ml ?_; go_simp; go_big_quiet_on)
        go_big_quiet_step (exact later_call (words_is a _ HA.out))
        (go_big_quiet_want; refine quiet_load_ky (w.heap.size + 1) b _ rfl rfl C0.out HB.out.ml ?_; go_simp; go_big_quiet_on)
        go_big_quiet_step (exact later_call (words_is b _ HB.out))
        (go_big_quiet_want; refine quiet_val (.bool false) (fun W => HW.out ▸ exec_eq_wd _ _ _ rfl a.w0 a.w1 a.w2 b.w0 b.w1 b.w2 rfl rfl) ?_; go_simp; go_big_quiet_on)
        (go_big_quiet_want; refine quiet_load_ky w.heap.size a _ rfl rfl A0.out HA.out.ml ?_; go_simp; go_big_quiet_on)
        (go_big_quiet_want; refine quiet_load_ky (w.heap.size + 1) b _ rfl rfl C0.out HB.out.ml ?_; go_simp; go_big_quiet_on)
        (go_big_quiet_want; refine quiet_val (.bool false) (fun W => HE.out ▸ exec_eq_ky _ _ _ rfl a b rfl rfl HA.out.ml HB.out.ml) ?_; go_simp; go_big_quiet_on)
        go_big_quiet_step (fail)
        go_big_quiet_step (fail)
        refine wpQuiet_nil ?_
        intro w1 b1
        exact ⟨rfl, b1, _, _, _, _, _, _, _, _, _, _, _, _, _, _, _, _, _, _, _, _, _, _, _, _, _, _, _, _, _, _, _, _, _, _, rfl⟩
    | false =>
      clear hD
      cases M with
      | true =>
        have HE : Hid (decide (a = b) = false) := HE
        have HW : Hid (same3 a.w0 a.w1 a.w2 b.w0 b.w1 b.w2 = false) := HW
        refine region_later (by kernel_rfl) (by kernel_rfl) ?_
        (go_big_quiet_want; refine quiet_load_ky w.heap.size a _ rfl rfl A0.out HA.out.ml ?_; go_simp; go_big_quiet_on)
        (go_big_quiet_want; refine quiet_load_ky (w.heap.size + 1) b _ rfl rfl C0.out HB.out.ml ?_; go_simp; go_big_quiet_on)
        go_big_quiet_step (exact later_call (less_is a b false _ HA.out HB.out HL))
        go_big_quiet_step (fail)
        go_big_quiet_step (fail)
        go_big_quiet_step (fail)
        go_big_quiet_step (fail)
        go_big_quiet_step (fail)
        go_big_quiet_step (fail)
        (go_big_quiet_want; refine quiet_load_ky w.heap.size a _ rfl rfl A0.out HA.out.ml ?_; go_simp; go_big_quiet_on)
        (go_big_quiet_want; refine quiet_load_ky (w.heap.size + 1) b _ rfl rfl C0.out HB.out.ml ?_; go_simp; go_big_quiet_on)
        go_big_quiet_step (exact later_call (less_is a b false _ HA.out HB.out HL))
        go_big_quiet_step (fail)
        go_big_quiet_step (fail)
        (go_big_quiet_want; refine quiet_load_ky (w.heap.size + 1) b _ rfl rfl C0.out HB.out.ml ?_; go_simp; go_big_quiet_on)
        (go_big_quiet_want; refine quiet_load_ky w.heap.size a _ rfl rfl A0.out HA.out.ml ?_; go_simp; go_big_quiet_on)
        go_big_quiet_step (exact later_call (less_is b a true _ HB.out HA.out HM))
        go_big_quiet_step (fail)
        go_big_quiet_step (fail)
        (go_big_quiet_want; refine quiet_load_ky w.heap.size a _ rfl rfl A0.out HA.out.ml ?_; go_simp; go_big_quiet_on)
        (go_big_quiet_want; refine quiet_load_ky (w.heap.size + 1) b _ rfl rfl C0.out HB.out.ml ?_; go_simp; go_big_quiet_on)
        (go_big_quiet_want; refine quiet_val (.bool false) (fun W => HE.out ▸ exec_eq_ky _ _ _ rfl a b rfl rfl HA.out.ml HB.out.ml) ?_; go_simp; go_big_quiet_on)
        go_big_quiet_step (fail)
        go_big_quiet_step (fail)
        go_big_quiet_step (fail)
        (go_big_quiet_want; refine quiet_load_ky w.heap.size a _ rfl rfl A0.out HA.out.ml ?_; go_simp; go_big_quiet_on)
        go_big_quiet_step (exact later_call (words_is a _ HA.out))
        (go_big_quiet_want; refine quiet_load_ky (w.heap.size + 1) b _ rfl rfl C0.out HB.out.ml ?_; go_simp; go_big_quiet_on)
        go_big_quiet_step (exact later_call (words_is b _ HB.out))
        (go_big_quiet_want; refine quiet_val (.bool false) (fun W => HW.out ▸ exec_eq_wd _ _ _ rfl a.w0 a.w1 a.w2 b.w0 b.w1 b.w2 rfl rfl) ?_; go_simp; go_big_quiet_on)
        (go_big_quiet_want; refine quiet_load_ky w.heap.size a _ rfl rfl A0.out HA.out.ml ?_; go_simp; go_big_quiet_on)
        (go_big_quiet_want; refine quiet_load_ky (w.heap.size + 1) b _ rfl rfl C0.out HB.out.ml ?_; go_simp; go_big_quiet_on)
        (go_big_quiet_want; refine quiet_val (.bool false) (fun W => HE.out ▸ exec_eq_ky _ _ _ rfl a b rfl rfl HA.out.ml HB.out.ml) ?_; go_simp; go_big_quiet_on)
        go_big_quiet_step (fail)
        go_big_quiet_step (fail)
        refine wpQuiet_nil ?_
        intro w1 b1
        exact ⟨rfl, b1, _, _, _, _, _, _, _, _, _, _, _, _, _, _, _, _, _, _, _, _, _, _, _, _, _, _, _, _, _, _, _, _, _, _, rfl⟩
      | false =>
        have HE : Hid (decide (a = b) = true) := HE
        have HW : Hid (same3 a.w0 a.w1 a.w2 b.w0 b.w1 b.w2 = true) := HW
        refine region_later (by kernel_rfl) (by kernel_rfl) ?_
        (go_big_quiet_want; refine quiet_load_ky w.heap.size a _ rfl rfl A0.out HA.out.ml ?_; go_simp; go_big_quiet_on)
        (go_big_quiet_want; refine quiet_load_ky (w.heap.size + 1) b _ rfl rfl C0.out HB.out.ml ?_; go_simp; go_big_quiet_on)
        go_big_quiet_step (exact later_call (less_is a b false _ HA.out HB.out HL))
        go_big_quiet_step (fail)
        go_big_quiet_step (fail)
        go_big_quiet_step (fail)
        go_big_quiet_step (fail)
        go_big_quiet_step (fail)
        go_big_quiet_step (fail)
        (go_big_quiet_want; refine quiet_load_ky w.heap.size a _ rfl rfl A0.out HA.out.ml ?_; go_simp; go_big_quiet_on)
        (go_big_quiet_want; refine quiet_load_ky (w.heap.size + 1) b _ rfl rfl C0.out HB.out.ml ?_; go_simp; go_big_quiet_on)
        go_big_quiet_step (exact later_call (less_is a b false _ HA.out HB.out HL))
        go_big_quiet_step (fail)
        go_big_quiet_step (fail)
        (go_big_quiet_want; refine quiet_load_ky (w.heap.size + 1) b _ rfl rfl C0.out HB.out.ml ?_; go_simp; go_big_quiet_on)
        (go_big_quiet_want; refine quiet_load_ky w.heap.size a _ rfl rfl A0.out HA.out.ml ?_; go_simp; go_big_quiet_on)
        go_big_quiet_step (exact later_call (less_is b a false _ HB.out HA.out HM))
        go_big_quiet_step (fail)
        go_big_quiet_step (fail)
        (go_big_quiet_want; refine quiet_load_ky w.heap.size a _ rfl rfl A0.out HA.out.ml ?_; go_simp; go_big_quiet_on)
        (go_big_quiet_want; refine quiet_load_ky (w.heap.size + 1) b _ rfl rfl C0.out HB.out.ml ?_; go_simp; go_big_quiet_on)
        (go_big_quiet_want; refine quiet_val (.bool true) (fun W => HE.out ▸ exec_eq_ky _ _ _ rfl a b rfl rfl HA.out.ml HB.out.ml) ?_; go_simp; go_big_quiet_on)
        go_big_quiet_step (fail)
        go_big_quiet_step (fail)
        go_big_quiet_step (fail)
        (go_big_quiet_want; refine quiet_load_ky w.heap.size a _ rfl rfl A0.out HA.out.ml ?_; go_simp; go_big_quiet_on)
        go_big_quiet_step (exact later_call (words_is a _ HA.out))
        (go_big_quiet_want; refine quiet_load_ky (w.heap.size + 1) b _ rfl rfl C0.out HB.out.ml ?_; go_simp; go_big_quiet_on)
        go_big_quiet_step (exact later_call (words_is b _ HB.out))
        (go_big_quiet_want; refine quiet_val (.bool true) (fun W => HW.out ▸ exec_eq_wd _ _ _ rfl a.w0 a.w1 a.w2 b.w0 b.w1 b.w2 rfl rfl) ?_; go_simp; go_big_quiet_on)
        (go_big_quiet_want; refine quiet_load_ky w.heap.size a _ rfl rfl A0.out HA.out.ml ?_; go_simp; go_big_quiet_on)
        (go_big_quiet_want; refine quiet_load_ky (w.heap.size + 1) b _ rfl rfl C0.out HB.out.ml ?_; go_simp; go_big_quiet_on)
        (go_big_quiet_want; refine quiet_val (.bool true) (fun W => HE.out ▸ exec_eq_ky _ _ _ rfl a b rfl rfl HA.out.ml HB.out.ml) ?_; go_simp; go_big_quiet_on)
        go_big_quiet_step (fail)
        go_big_quiet_step (fail)
        refine wpQuiet_nil ?_
        intro w1 b1
        exact ⟨rfl, b1, _, _, _, _, _, _, _, _, _, _, _, _, _, _, _, _, _, _, _, _, _, _, _, _, _, _, _, _, _, _, _, _, _, _, rfl⟩
  rintro e act w1 ⟨rfl, b1, x15, x16, x17, x18, x19, x20, x21, x22, x23, x24, x25, x26, x27, x28, x29, x30, x31, x32, x33, x34, x35, x36, x37, x38, x39, x40, x41, x42, x43, x44, x45, x46, x47, x48, rfl⟩
  have A1 := Lib.hid (A0.out.below b1)
  have B1 := Lib.hid (step_ B0.out b1)
  clear b1 HT HD HQ
  go_wp2_with (refine wpList_load_ky rfl _ rfl w.heap.size 0 a rfl A1.out.range HA.out.ml ?_)
  refine (kright_is a false _ HA.out HR).mono ?_
  rintro e w2 ⟨rfl, b2⟩
  have A2 := Lib.hid (A1.out.below b2)
  have B2 := Lib.hid (step_ B1.out b2)
  clear b2
  go_wp2_with fail
  refine (alive_is _).mono ?_
  rintro e w3 ⟨rfl, b3⟩
  have B3 := Lib.hid (step_ B2.out b3)
  clear b3
  go_wp2_with fail
  go_ret
  exact ⟨rfl, B3.out⟩
set_option maxRecDepth 100000 in
set_option maxHeartbeats 4000000 in
theorem kb_true (a b : Ky) (ad : Option Addr) (l : List Int) (cap : Nat) (w : World) (ha : a.Ok) (hb : b.Ok) (hl : BytesAt w (.slice ad l.length cap) l) (hn : l.length ≤ 60) (hr : a.right = true) : Calls Try.prog 6 #[.agg a.cells.toArray, .agg b.cells.toArray, .slice ad l.length cap] w (Holds_ w) := by
  have hz2 := zero27
  have k1 : ¬ (60 : Int) < (l.length : Int) := by omega
  have HA := Lib.hid ha
  have HB := Lib.hid hb
  have HV := Lib.hid hl
  have HN := Lib.hid hn
  have HR := Lib.hid hr
  have A0 := Lib.hid ((blk_alloc w 27 a.cells).alloc (.cells b.cells.toArray 27))
  have C0 := Lib.hid (blk2 w (.cells a.cells.toArray 27) 27 b.cells)
  have B0 := Lib.hid (step_ (new_below w (.cells a.cells.toArray 27)) (new_below _ (.cells b.cells.toArray 27)))
  have HT := Lib.hid (less_total ha hb)
  have HD := Lib.hid (less_both (a := a) (b := b))
  have HQ := Lib.hid (words_eq ha hb)
  clear ha hb hl hn hr
  go_enter Try.func6, Try.ntmps6
  go_wp2_with fail
  refine Code.wp_mono (Q := fun e act W => e = .normal ∧ Below ((w.alloc (.cells a.cells.toArray 27)).alloc (.cells b.cells.toArray 27)).heap.size ((w.alloc (.cells a.cells.toArray 27)).alloc (.cells b.cells.toArray 27)) W ∧ ∃ x15 x16 x17 x18 x19 x20 x21 x22 x23 x24 x25 x26 x27 x28 x29 x30 x31 x32 x33 x34 x35 x36 x37 x38 x39 x40 x41 x42 x43 x44 x45 x46 x47 x48, act = (⟨#[.agg a.cells.toArray, .agg b.cells.toArray, .slice ad l.length cap, .pointer (some ⟨w.heap.size, 0, none⟩), .pointer (some ⟨w.heap.size + 1, 0, none⟩), undef, .bool false, undef, undef, undef, undef, .slice ad l.length cap, .int .i64 (l.length : Int), .bool false, undef, x15, x16, x17, x18, x19, x20, x21, x22, x23, x24, x25, x26, x27, x28, x29, x30, x31, x32, x33, x34, x35, x36, x37, x38, x39, x40, x41, x42, x43, x44, x45, x46, x47, x48, .bool false, undef, undef, undef, undef, undef, undef, undef, undef, undef, undef, undef, undef, undef, undef, undef, undef, undef, undef, undef, undef, undef, undef, undef, undef, undef, undef, undef, undef, undef, undef, undef, undef, undef, undef, undef, undef, undef, undef, undef, undef, undef, undef, undef, undef, undef, undef, undef, undef, undef], []⟩ : Act)) ?_ ?_
  rotate_left
  · obtain ⟨L, hL⟩ : ∃ L, a.less b = L := ⟨_, rfl⟩
    obtain ⟨M, hM⟩ : ∃ M, b.less a = M := ⟨_, rfl⟩
    obtain ⟨E, hE⟩ : ∃ E, decide (a = b) = E := ⟨_, rfl⟩
    have HL := Lib.hid hL
    have HM := Lib.hid hM
    have HE := Lib.hid hE
    have HW := Lib.hid (show same3 a.w0 a.w1 a.w2 b.w0 b.w1 b.w2 = E by rw [← hE]; exact HQ.out)
    have hT := HT.out
    have hD := HD.out
    rw [hL, hM, hE] at hT
    rw [hL, hM] at hD
    subst hT
    clear hL hM hE
    cases L with
    | true =>
      cases M with
      | true => cases hD
      | false =>
        clear hD
        have HE : Hid (decide (a = b) = false) := HE
        have HW : Hid (same3 a.w0 a.w1 a.w2 b.w0 b.w1 b.w2 = false) := HW
        refine region_later (by kernel_rfl) (by kernel_rfl) ?_
        (go_big_quiet_want; refine quiet_load_ky w.heap.size a _ rfl rfl A0.out HA.out.ml ?_; go_simp; go_big_quiet_on)
        (go_big_quiet_want; refine quiet_load_ky (w.heap.size + 1) b _ rfl rfl C0.out HB.out.ml ?_; go_simp; go_big_quiet_on)
        go_big_quiet_step (exact later_call (less_is a b true _ HA.out HB.out HL))
        go_big_quiet_step (fail)
        (go_big_quiet_want; refine quiet_load_ky (w.heap.size + 1) b _ rfl rfl C0.out HB.out.ml ?_; go_simp; go_big_quiet_on)
        (go_big_quiet_want; refine quiet_load_ky w.heap.size a _ rfl rfl A0.out HA.out.ml ?_; go_simp; go_big_quiet_on)
        go_big_quiet_step (exact later_call (less_is b a false _ HB.out HA.out HM))
        go_big_quiet_step (fail)
        go_big_quiet_step (fail)
        (go_big_quiet_want; refine quiet_load_ky w.heap.size a _ rfl rfl A0.out HA.out.ml ?_; go_simp; go_big_quiet_on)
        (go_big_quiet_want; refine quiet_load_ky (w.heap.size + 1) b _ rfl rfl C0.out HB.out.ml ?_; go_simp; go_big_quiet_on)
        go_big_quiet_step (exact later_call (less_is a b true _ HA.out HB.out HL))
        go_big_quiet_step (fail)
        go_big_quiet_step (fail)
        go_big_quiet_step (fail)
        go_big_quiet_step (fail)
        go_big_quiet_step (fail)
        go_big_quiet_step (fail)
        go_big_quiet_step (fail)
        (go_big_quiet_want; refine quiet_load_ky w.heap.size a _ rfl rfl A0.out HA.out.ml ?_; go_simp; go_big_quiet_on)
        (go_big_quiet_want; refine quiet_load_ky (w.heap.size + 1) b _ rfl rfl C0.out HB.out.ml ?_; go_simp; go_big_quiet_on)
        (go_big_quiet_want; refine quiet_val (.bool false) (fun W => HE.out ▸ exec_eq_ky _ _ _ rfl a b rfl rfl HA.out.ml HB.out.ml) ?_; go_simp; go_big_quiet_on)
        go_big_quiet_step (fail)
        go_big_quiet_step (fail)
        go_big_quiet_step (fail)
        (go_big_quiet_want; refine quiet_load_ky w.heap.size a _ rfl rfl A0.out HA.out.ml ?_; go_simp; go_big_quiet_on)
        go_big_quiet_step (exact later_call (words_is a _ HA.out))
        (go_big_quiet_want; refine quiet_load_ky (w.heap.size + 1) b _ rfl rfl C0.out HB.out.ml ?_; go_simp; go_big_quiet_on)
        go_big_quiet_step (exact later_call (words_is b _ HB.out))
        (go_big_quiet_want; refine quiet_val (.bool false) (fun W => HW.out ▸ exec_eq_wd _ _ _ rfl a.w0 a.w1 a.w2 b.w0 b.w1 b.w2 rfl rfl) ?_; go_simp; go_big_quiet_on)
        (go_big_quiet_want; refine quiet_load_ky w.heap.size a _ rfl rfl A0.out HA.out.ml ?_; go_simp; go_big_quiet_on)
        (go_big_quiet_want; refine quiet_load_ky (w.heap.size + 1) b _ rfl rfl C0.out HB.out.ml ?_; go_simp; go_big_quiet_on)
        (go_big_quiet_want; refine quiet_val (.bool false) (fun W => HE.out ▸ exec_eq_ky _ _ _ rfl a b rfl rfl HA.out.ml HB.out.ml) ?_; go_simp; go_big_quiet_on)
        go_big_quiet_step (fail)
        go_big_quiet_step (fail)
        refine wpQuiet_nil ?_
        intro w1 b1
        exact ⟨rfl, b1, _, _, _, _, _, _, _, _, _, _, _, _, _, _, _, _, _, _, _, _, _, _, _, _, _, _, _, _, _, _, _, _, _, _, rfl⟩
    | false =>
      clear hD
      cases M with
      | true =>
        have HE : Hid (decide (a = b) = false) := HE
        have HW : Hid (same3 a.w0 a.w1 a.w2 b.w0 b.w1 b.w2 = false) := HW
        refine region_later (by kernel_rfl) (by kernel_rfl) ?_
        (go_big_quiet_want; refine quiet_load_ky w.heap.size a _ rfl rfl A0.out HA.out.ml ?_; go_simp; go_big_quiet_on)
        (go_big_quiet_want; refine quiet_load_ky (w.heap.size + 1) b _ rfl rfl C0.out HB.out.ml ?_; go_simp; go_big_quiet_on)
        go_big_quiet_step (exact later_call (less_is a b false _ HA.out HB.out HL))
        go_big_quiet_step (fail)
        go_big_quiet_step (fail)
        go_big_quiet_step (fail)
        go_big_quiet_step (fail)
        go_big_quiet_step (fail)
        go_big_quiet_step (fail)
        (go_big_quiet_want; refine quiet_load_ky w.heap.size a _ rfl rfl A0.out HA.out.ml ?_; go_simp; go_big_quiet_on)
        (go_big_quiet_want; refine quiet_load_ky (w.heap.size + 1) b _ rfl rfl C0.out HB.out.ml ?_; go_simp; go_big_quiet_on)
        go_big_quiet_step (exact later_call (less_is a b false _ HA.out HB.out HL))
        go_big_quiet_step (fail)
        go_big_quiet_step (fail)
        (go_big_quiet_want; refine quiet_load_ky (w.heap.size + 1) b _ rfl rfl C0.out HB.out.ml ?_; go_simp; go_big_quiet_on)
        (go_big_quiet_want; refine quiet_load_ky w.heap.size a _ rfl rfl A0.out HA.out.ml ?_; go_simp; go_big_quiet_on)
        go_big_quiet_step (exact later_call (less_is b a true _ HB.out HA.out HM))
        go_big_quiet_step (fail)
        go_big_quiet_step (fail)
        (go_big_quiet_want; refine quiet_load_ky w.heap.size a _ rfl rfl A0.out HA.out.ml ?_; go_simp; go_big_quiet_on)
        (go_big_quiet_want; refine quiet_load_ky (w.heap.size + 1) b _ rfl rfl C0.out HB.out.ml ?_; go_simp; go_big_quiet_on)
        (go_big_quiet_want; refine quiet_val (.bool false) (fun W => HE.out ▸ exec_eq_ky _ _ _ rfl a b rfl rfl HA.out.ml HB.out.ml) ?_; go_simp; go_big_quiet_on)
        go_big_quiet_step (fail)
        go_big_quiet_step (fail)
        go_big_quiet_step (fail)
        (go_big_quiet_want; refine quiet_load_ky w.heap.size a _ rfl rfl A0.out HA.out.ml ?_; go_simp; go_big_quiet_on)
        go_big_quiet_step (exact later_call (words_is a _ HA.out))
        (go_big_quiet_want; refine quiet_load_ky (w.heap.size + 1) b _ rfl rfl C0.out HB.out.ml ?_; go_simp; go_big_quiet_on)
        go_big_quiet_step (exact later_call (words_is b _ HB.out))
        (go_big_quiet_want; refine quiet_val (.bool false) (fun W => HW.out ▸ exec_eq_wd _ _ _ rfl a.w0 a.w1 a.w2 b.w0 b.w1 b.w2 rfl rfl) ?_; go_simp; go_big_quiet_on)
        (go_big_quiet_want; refine quiet_load_ky w.heap.size a _ rfl rfl A0.out HA.out.ml ?_; go_simp; go_big_quiet_on)
        (go_big_quiet_want; refine quiet_load_ky (w.heap.size + 1) b _ rfl rfl C0.out HB.out.ml ?_; go_simp; go_big_quiet_on)
        (go_big_quiet_want; refine quiet_val (.bool false) (fun W => HE.out ▸ exec_eq_ky _ _ _ rfl a b rfl rfl HA.out.ml HB.out.ml) ?_; go_simp; go_big_quiet_on)
        go_big_quiet_step (fail)
        go_big_quiet_step (fail)
        refine wpQuiet_nil ?_
        intro w1 b1
        exact ⟨rfl, b1, _, _, _, _, _, _, _, _, _, _, _, _, _, _, _, _, _, _, _, _, _, _, _, _, _, _, _, _, _, _, _, _, _, _, rfl⟩
      | false =>
        have HE : Hid (decide (a = b) = true) := HE
        have HW : Hid (same3 a.w0 a.w1 a.w2 b.w0 b.w1 b.w2 = true) := HW
        refine region_later (by kernel_rfl) (by kernel_rfl) ?_
        (go_big_quiet_want; refine quiet_load_ky w.heap.size a _ rfl rfl A0.out HA.out.ml ?_; go_simp; go_big_quiet_on)
        (go_big_quiet_want; refine quiet_load_ky (w.heap.size + 1) b _ rfl rfl C0.out HB.out.ml ?_; go_simp; go_big_quiet_on)
        go_big_quiet_step (exact later_call (less_is a b false _ HA.out HB.out HL))
        go_big_quiet_step (fail)
        go_big_quiet_step (fail)
        go_big_quiet_step (fail)
        go_big_quiet_step (fail)
        go_big_quiet_step (fail)
        go_big_quiet_step (fail)
        (go_big_quiet_want; refine quiet_load_ky w.heap.size a _ rfl rfl A0.out HA.out.ml ?_; go_simp; go_big_quiet_on)
        (go_big_quiet_want; refine quiet_load_ky (w.heap.size + 1) b _ rfl rfl C0.out HB.out.ml ?_; go_simp; go_big_quiet_on)
        go_big_quiet_step (exact later_call (less_is a b false _ HA.out HB.out HL))
        go_big_quiet_step (fail)
        go_big_quiet_step (fail)
        (go_big_quiet_want; refine quiet_load_ky (w.heap.size + 1) b _ rfl rfl C0.out HB.out.ml ?_; go_simp; go_big_quiet_on)
        (go_big_quiet_want; refine quiet_load_ky w.heap.size a _ rfl rfl A0.out HA.out.ml ?_; go_simp; go_big_quiet_on)
        go_big_quiet_step (exact later_call (less_is b a false _ HB.out HA.out HM))
        go_big_quiet_step (fail)
        go_big_quiet_step (fail)
        (go_big_quiet_want; refine quiet_load_ky w.heap.size a _ rfl rfl A0.out HA.out.ml ?_; go_simp; go_big_quiet_on)
        (go_big_quiet_want; refine quiet_load_ky (w.heap.size + 1) b _ rfl rfl C0.out HB.out.ml ?_; go_simp; go_big_quiet_on)
        (go_big_quiet_want; refine quiet_val (.bool true) (fun W => HE.out ▸ exec_eq_ky _ _ _ rfl a b rfl rfl HA.out.ml HB.out.ml) ?_; go_simp; go_big_quiet_on)
        go_big_quiet_step (fail)
        go_big_quiet_step (fail)
        go_big_quiet_step (fail)
        (go_big_quiet_want; refine quiet_load_ky w.heap.size a _ rfl rfl A0.out HA.out.ml ?_; go_simp; go_big_quiet_on)
        go_big_quiet_step (exact later_call (words_is a _ HA.out))
        (go_big_quiet_want; refine quiet_load_ky (w.heap.size + 1) b _ rfl rfl C0.out HB.out.ml ?_; go_simp; go_big_quiet_on)
        go_big_quiet_step (exact later_call (words_is b _ HB.out))
        (go_big_quiet_want; refine quiet_val (.bool true) (fun W => HW.out ▸ exec_eq_wd _ _ _ rfl a.w0 a.w1 a.w2 b.w0 b.w1 b.w2 rfl rfl) ?_; go_simp; go_big_quiet_on)
        (go_big_quiet_want; refine quiet_load_ky w.heap.size a _ rfl rfl A0.out HA.out.ml ?_; go_simp; go_big_quiet_on)
        (go_big_quiet_want; refine quiet_load_ky (w.heap.size + 1) b _ rfl rfl C0.out HB.out.ml ?_; go_simp; go_big_quiet_on)
        (go_big_quiet_want; refine quiet_val (.bool true) (fun W => HE.out ▸ exec_eq_ky _ _ _ rfl a b rfl rfl HA.out.ml HB.out.ml) ?_; go_simp; go_big_quiet_on)
        go_big_quiet_step (fail)
        go_big_quiet_step (fail)
        refine wpQuiet_nil ?_
        intro w1 b1
        exact ⟨rfl, b1, _, _, _, _, _, _, _, _, _, _, _, _, _, _, _, _, _, _, _, _, _, _, _, _, _, _, _, _, _, _, _, _, _, _, rfl⟩
  rintro e act w1 ⟨rfl, b1, x15, x16, x17, x18, x19, x20, x21, x22, x23, x24, x25, x26, x27, x28, x29, x30, x31, x32, x33, x34, x35, x36, x37, x38, x39, x40, x41, x42, x43, x44, x45, x46, x47, x48, rfl⟩
  have A1 := Lib.hid (A0.out.below b1)
  have B1 := Lib.hid (step_ B0.out b1)
  clear b1 HT HD HQ
  go_wp2_with (refine wpList_load_ky rfl _ rfl w.heap.size 0 a rfl A1.out.range HA.out.ml ?_)
  refine (kright_is a true _ HA.out HR).mono ?_
  rintro e w2 ⟨rfl, b2⟩
  have A2 := Lib.hid (A1.out.below b2)
  have B2 := Lib.hid (step_ B1.out b2)
  clear b2
  go_wp2_with fail
  refine (new_is _).mono ?_
  rintro e w3 ⟨rfl, hw3, b3⟩
  have W3 := Lib.hid hw3
  have A3 := Lib.hid (A2.out.below b3)
  have B3 := Lib.hid (step_ B2.out b3)
  have L3 := Lib.hid A2.out.lt
  have B23 := Lib.hid B2.out.size
  clear hw3 b3
  go_wp2_with (refine wpList_load_ky rfl _ rfl w.heap.size 0 a rfl A3.out.range HA.out.ml ?_)
  refine (kwrite_is w2.heap.size [] a _ W3.out HA.out (by simp)).mono ?_
  rintro e w4 ⟨⟨y4, rfl⟩, hw4, b4, k4⟩
  rw [List.nil_append] at hw4
  have W4 := Lib.hid hw4
  have A4 := Lib.hid (k4 _ _ _ (by decide) (Nat.ne_of_lt L3.out) A3.out)
  have B4 := Lib.hid (B3.out.trans (b4.mono B23.out))
  have HE := Lib.hid (owns_empty w4 w.heap.size B4.out.size)
  have A4' := Lib.hid (A4.out.alloc (.cells #[] 5))
  have B4' := Lib.hid (step_ B4.out (new_below w4 (.cells #[] 5)))
  have W4' := Lib.hid (W4.out.below (new_below w4 (.cells #[] 5)))
  have KL := Lib.hid (kenc_len HA.out)
  have KB := Lib.hid (kenc_bytes HA.out)
  clear hw4 b4 k4
  go_wp2_with fail
  refine (out_is w2.heap.size (kenc a) _ W4'.out (by have := KL.out; omega)).mono ?_
  rintro e w5 ⟨v5, rfl, hv5, b5⟩
  have V5 := Lib.hid hv5
  have A5 := Lib.hid (A4'.out.below b5)
  have B5 := Lib.hid (step_ B4'.out b5)
  have P5 := Lib.hid (owns_below HE.out b5)
  have M5 := Lib.hid (HV.out.below B5.out)
  clear hv5 b5
  go_wp2_with (first
    | (at_builtin; refine app_bytesK _ rfl (.tmp 58) (.tmp 60) rfl w.heap.size _ _ [] (kenc a) rfl P5.out rfl V5.out (by have := KL.out; simp; omega) B5.out.size ?_; intro v6 w6 hown6 hbel6 hk6; have P6 := Lib.hid (show w6.ownsRow w.heap.size 5 1 v6 (kenc a).length ((kenc a).map (Value.int .u8)) from hown6); have B6 := Lib.hid (B5.out.trans hbel6); have A6 := Lib.hid (hk6 _ _ _ (by decide) A5.out); have M6 := Lib.hid (HV.out.below B6.out); clear hown6 hbel6 hk6)
    | (at_builtin; refine app_bytesK _ rfl (.tmp 61) (.tmp 62) rfl w.heap.size _ _ (kenc a) l rfl P6.out rfl M6.out (by have := KL.out; have := HN.out; omega) B6.out.size ?_; intro v7 w7 hown7 hbel7 hk7; have P7 := Lib.hid hown7; have B7 := Lib.hid (B6.out.trans hbel7); have A7 := Lib.hid (hk7 _ _ _ (by decide) A6.out); clear hown7 hbel7 hk7))
  refine (from_is _ (kenc a ++ l) _ (bytes_of_owns P7.out (KB.out.app HV.out.bytes)) (by have := KL.out; have := HN.out; simp; omega)).mono ?_
  rintro e w8 ⟨gc, R, rfl, hgc, hc8, b8⟩
  have C8 := Lib.hid hc8
  have A8 := Lib.hid (A7.out.below b8)
  have B8 := Lib.hid (step_ B7.out b8)
  have GC := Lib.hid (show w.heap.size < gc from Nat.lt_of_lt_of_le A7.out.lt hgc)
  clear hc8 b8 hgc
  go_wp2_with (refine wpList_load_ky rfl _ rfl w.heap.size 0 a rfl A8.out.range HA.out.ml ?_)
  refine (words_is a _ HA.out).mono ?_
  rintro e w9 ⟨rfl, b9⟩
  have C9 := Lib.hid (C8.out.below b9)
  have A9 := Lib.hid (A8.out.below b9)
  have B9 := Lib.hid (step_ B8.out b9)
  clear b9
  have HF : Hid (∀ W, Calls Try.prog 7 #[.agg (wd a.w0 a.w1 a.w2).toArray] W fun e w' => e = .returned (.tuple #[.agg a.cells.toArray, .int .i64 0]) ∧ Below W.heap.size W w') := Lib.hid fun W => by
    have h := from_any a.w0 a.w1 a.w2 W HA.out.w2r.1 (by have := HA.out.w2r.2; omega)
    rw [from_words HA.out HR.out, cut_words HA.out HR.out] at h
    exact h
  go_wp2_with fail
  refine (HF.out _).mono ?_
  rintro e w10 ⟨rfl, b10⟩
  have C10 := Lib.hid ((C9.out.below b10).alloc (.cells kzero.cells.toArray 27))
  have F10 := Lib.hid ((C9.out.below b10).far (Nat.le_refl _))
  have A10 := Lib.hid ((A9.out.below b10).alloc (.cells kzero.cells.toArray 27))
  have B10 := Lib.hid (step_ (step_ B9.out b10) (new_below w10 (.cells kzero.cells.toArray 27)))
  have N10 := Lib.hid (blk_alloc w10 27 kzero.cells)
  have G10 := Lib.hid (A9.out.below b10).lt
  clear b10 HF
  go_wp2_with (first
    | (refine wpList_store_ky rfl _ _ rfl w10.heap.size kzero a rfl rfl N10.out rfl HA.out.ml ?_; intro w11 N11 O11; have C11 := Lib.hid (C10.out.only O11.out F10.out.1 F10.out.2); have S11 := Lib.hid (BS.mk (B10.out.trans (O11.out.below (Nat.le_of_lt G10.out) B10.out.size)) (A10.out.only O11.out (Nat.ne_of_lt G10.out)) N11.out : BS w a w10.heap.size w11)))
  have S1 := Lib.hid S11.out.drew
  have C1 := Lib.hid (C11.out.below (below_drew (Below.refl _ _)))
  have HK : Hid (∀ W, CurAt W gc R 0 (kenc a ++ l) → Calls Try.prog 22 #[.pointer (some ⟨gc, 0, none⟩)] W (ReadsK W gc R a 0 l)) := Lib.hid fun W hW => by
    have h := kread_is gc R (kenc a ++ l) W hW
    rw [rKey_back HA.out HR.out l] at h
    exact h
  refine wp_region_noPanic ?_
  refine wp_region_held_drew (S := BS w a w10.heap.size) (by kernel_rfl) S1.out (fun _ => ?_)
  refine wpAnyH_take (i := 0) (oi := { dst := some 71, op := Go.Op.move (Go.Operand.tmp 8), type := 45, pos := _, after := #[], guard := none }) (v := ?_) rfl (by kernel_rfl) (by kernel_rfl) (by kernel_rfl) (fun _ _ _ h => h) (Or.inl ⟨by rfl, ?_⟩) S1.out ?_
  rotate_left
  · intro W hW; (go_simp; try with_reducible rfl)
  try simp only [Act.put, List.setIfInBounds_toArray, List.set_cons_zero, List.set_cons_succ]
  refine wpAnyH_take (i := 2) (oi := { dst := some 73, op := Go.Op.load 27 (Go.Operand.tmp 3), type := 27, pos := _, after := #[], guard := none }) (v := .agg a.cells.toArray) rfl (by kernel_rfl) (by kernel_rfl) (by kernel_rfl) (fun _ _ _ h => h) (yieldsIf_load_mid (by rfl) 27 (.tmp 3) rfl w.heap.size 0 rfl a.cells _ (fun W hW => hW.one.range) Try.underlying27 rfl (size27 HA.out.ml)) S1.out ?_
  try simp only [Act.put, List.setIfInBounds_toArray, List.set_cons_zero, List.set_cons_succ]
  refine wpAnyH_ready (rs := [1]) (by kernel_rfl) (by simp) ?_
  refine AllReadyH.cons (o := { dst := some 72, op := Go.Op.call { callee := Go.Callee.value (Go.Operand.func 22), args := #[Go.Operand.tmp 71], argTypes := #[45] }, type := 27, pos := _, after := #[{ on := 0, ground := Go.Ground.data }], guard := none }) rfl (fun K hK => ?_) AllReadyH.nil
  go_simp
  refine (HK.out _ C1.out).mono ?_
  rintro e w12 ⟨rfl, hc12, ho12⟩
  have S2 := Lib.hid (S1.out.only ho12 GC.out (fun e => F10.out.1 e.symm))
  have C2 := Lib.hid hc12
  clear hc12 ho12
  go_wp2_with fail
  refine hK.out _ _ ?_ (fun _ => ?_)
  · exact S2.out
  clear hK K
  try simp only [Act.put, List.setIfInBounds_toArray, List.set_cons_zero, List.set_cons_succ]
  refine wpAnyH_take (i := 3) (oi := { dst := some 74, op := Go.Op.binOp Go.BinOp.eql 27 (Go.Operand.tmp 72) (Go.Operand.tmp 73) 27, type := 4, pos := _, after := #[{ on := 1, ground := Go.Ground.data }, { on := 2, ground := Go.Ground.data }], guard := none }) (v := .bool true) rfl (by kernel_rfl) (by kernel_rfl) (by kernel_rfl) (fun _ _ _ h => h) (Or.inl ⟨by rfl, fun W hW => (decide_eq_true (rfl : a = a)) ▸ exec_eq_ky _ _ _ rfl a a rfl rfl HA.out.ml HA.out.ml⟩) S2.out ?_
  try simp only [Act.put, List.setIfInBounds_toArray, List.set_cons_zero, List.set_cons_succ]
  refine wpAnyH_take (i := 4) (oi := { dst := some 75, op := Go.Op.move (Go.Operand.tmp 74), type := 4, pos := _, after := #[{ on := 3, ground := Go.Ground.data }, { on := 1, ground := Go.Ground.chain }], guard := none }) (v := ?_) rfl (by kernel_rfl) (by kernel_rfl) (by kernel_rfl) (fun _ _ _ h => h) (Or.inl ⟨by rfl, ?_⟩) S2.out ?_
  rotate_left
  · intro W hW; (go_simp; try with_reducible rfl)
  try simp only [Act.put, List.setIfInBounds_toArray, List.set_cons_zero, List.set_cons_succ]
  refine wpAnyH_take (i := 5) (oi := { dst := some 76, op := Go.Op.move (Go.Operand.tmp 8), type := 45, pos := _, after := #[{ on := 4, ground := Go.Ground.guard }], guard := some (4, true) }) (v := ?_) rfl (by kernel_rfl) (by kernel_rfl) (by kernel_rfl) (fun _ _ _ h => h) (Or.inl ⟨by rfl, ?_⟩) S2.out ?_
  rotate_left
  · intro W hW; (go_simp; try with_reducible rfl)
  try simp only [Act.put, List.setIfInBounds_toArray, List.set_cons_zero, List.set_cons_succ]
  refine wpAnyH_ready (rs := [6]) (by kernel_rfl) (by simp) ?_
  refine AllReadyH.cons (o := { dst := some 77, op := Go.Op.call { callee := Go.Callee.value (Go.Operand.func 24), args := #[Go.Operand.tmp 76], argTypes := #[45] }, type := 30, pos := _, after := #[{ on := 5, ground := Go.Ground.data }, { on := 4, ground := Go.Ground.chain }, { on := 4, ground := Go.Ground.guard }], guard := some (4, true) }) rfl (fun K hK => ?_) AllReadyH.nil
  go_simp
  refine (curErrK_is gc R 0 l _ C2.out).mono ?_
  rintro e w13 ⟨rfl, rfl⟩
  go_wp2_with fail
  refine hK.out _ _ ?_ (fun _ => ?_)
  · exact S2.out
  clear hK K
  try simp only [Act.put, List.setIfInBounds_toArray, List.set_cons_zero, List.set_cons_succ]
  refine wpAnyH_take (i := 7) (oi := { dst := some 78, op := Go.Op.binOp Go.BinOp.eql 30 (Go.Operand.tmp 77) (Go.Operand.const (Go.Value.int Go.IntKind.i64 0)) 30, type := 4, pos := _, after := #[{ on := 6, ground := Go.Ground.data }, { on := 4, ground := Go.Ground.guard }], guard := some (4, true) }) (v := ?_) rfl (by kernel_rfl) (by kernel_rfl) (by kernel_rfl) (fun _ _ _ h => h) (Or.inl ⟨by rfl, ?_⟩) S2.out ?_
  rotate_left
  · intro W hW; (go_simp; try with_reducible rfl)
  try simp only [Act.put, List.setIfInBounds_toArray, List.set_cons_zero, List.set_cons_succ]
  refine wpAnyH_take (i := 8) (oi := { dst := some 79, op := Go.Op.pick (Go.Operand.tmp 75) (Go.Operand.tmp 78) (Go.Operand.const (Go.Value.bool false)), type := 4, pos := _, after := #[{ on := 4, ground := Go.Ground.data }, { on := 7, ground := Go.Ground.data }], guard := none }) (v := ?_) rfl (by kernel_rfl) (by kernel_rfl) (by kernel_rfl) (fun _ _ _ h => h) (Or.inl ⟨by rfl, ?_⟩) S2.out ?_
  rotate_left
  · intro W hW; (go_simp; try with_reducible rfl)
  try simp only [Act.put, List.setIfInBounds_toArray, List.set_cons_zero, List.set_cons_succ]
  refine wpAnyH_take (i := 9) (oi := { dst := some 80, op := Go.Op.move (Go.Operand.tmp 79), type := 4, pos := _, after := #[{ on := 8, ground := Go.Ground.data }, { on := 6, ground := Go.Ground.chain }], guard := none }) (v := ?_) rfl (by kernel_rfl) (by kernel_rfl) (by kernel_rfl) (fun _ _ _ h => h) (Or.inl ⟨by rfl, ?_⟩) S2.out ?_
  rotate_left
  · intro W hW; (go_simp; try with_reducible rfl)
  try simp only [Act.put, List.setIfInBounds_toArray, List.set_cons_zero, List.set_cons_succ]
  refine wpAnyH_take (i := 10) (oi := { dst := some 81, op := Go.Op.move (Go.Operand.tmp 8), type := 45, pos := _, after := #[{ on := 9, ground := Go.Ground.guard }], guard := some (9, true) }) (v := ?_) rfl (by kernel_rfl) (by kernel_rfl) (by kernel_rfl) (fun _ _ _ h => h) (Or.inl ⟨by rfl, ?_⟩) S2.out ?_
  rotate_left
  · intro W hW; (go_simp; try with_reducible rfl)
  try simp only [Act.put, List.setIfInBounds_toArray, List.set_cons_zero, List.set_cons_succ]
  refine wpAnyH_take (i := 12) (oi := { dst := some 83, op := Go.Op.move (Go.Operand.tmp 2), type := 38, pos := _, after := #[{ on := 9, ground := Go.Ground.guard }], guard := some (9, true) }) (v := ?_) rfl (by kernel_rfl) (by kernel_rfl) (by kernel_rfl) (fun _ _ _ h => h) (Or.inl ⟨by rfl, ?_⟩) S2.out ?_
  rotate_left
  · intro W hW; (go_simp; try with_reducible rfl)
  try simp only [Act.put, List.setIfInBounds_toArray, List.set_cons_zero, List.set_cons_succ]
  refine wpAnyH_take (i := 13) (oi := { dst := some 84, op := Go.Op.call { callee := Go.Callee.builtin Go.Builtin.len, args := #[Go.Operand.tmp 83], argTypes := #[38] }, type := 3, pos := _, after := #[{ on := 12, ground := Go.Ground.data }, { on := 9, ground := Go.Ground.guard }], guard := some (9, true) }) (v := ?_) rfl (by kernel_rfl) (by kernel_rfl) (by kernel_rfl) (fun _ _ _ h => h) (Or.inl ⟨by rfl, ?_⟩) S2.out ?_
  rotate_left
  · intro W hW; (go_simp; try with_reducible rfl)
  try simp only [Act.put, List.setIfInBounds_toArray, List.set_cons_zero, List.set_cons_succ]
  refine wpAnyH_ready (rs := [11]) (by kernel_rfl) (by simp) ?_
  refine AllReadyH.cons (o := { dst := some 82, op := Go.Op.call { callee := Go.Callee.value (Go.Operand.func 25), args := #[Go.Operand.tmp 81], argTypes := #[45] }, type := 3, pos := _, after := #[{ on := 10, ground := Go.Ground.data }, { on := 9, ground := Go.Ground.chain }, { on := 9, ground := Go.Ground.guard }], guard := some (9, true) }) rfl (fun K hK => ?_) AllReadyH.nil
  go_simp
  refine (curLeftK_is gc R 0 l _ C2.out).mono ?_
  rintro e w13 ⟨rfl, rfl⟩
  go_wp2_with fail
  refine hK.out _ _ ?_ (fun _ => ?_)
  · exact S2.out
  clear hK K
  try simp only [Act.put, List.setIfInBounds_toArray, List.set_cons_zero, List.set_cons_succ]
  refine wpAnyH_take (i := 14) (oi := { dst := some 85, op := Go.Op.binOp Go.BinOp.eql 3 (Go.Operand.tmp 82) (Go.Operand.tmp 84) 3, type := 4, pos := _, after := #[{ on := 11, ground := Go.Ground.data }, { on := 13, ground := Go.Ground.data }, { on := 9, ground := Go.Ground.guard }], guard := some (9, true) }) (v := ?_) rfl (by kernel_rfl) (by kernel_rfl) (by kernel_rfl) (fun _ _ _ h => h) (Or.inl ⟨by rfl, ?_⟩) S2.out ?_
  rotate_left
  · intro W hW; (go_simp; try with_reducible rfl)
  try simp only [Act.put, List.setIfInBounds_toArray, List.set_cons_zero, List.set_cons_succ]
  refine wpAnyH_take (i := 15) (oi := { dst := some 86, op := Go.Op.pick (Go.Operand.tmp 80) (Go.Operand.tmp 85) (Go.Operand.const (Go.Value.bool false)), type := 4, pos := _, after := #[{ on := 9, ground := Go.Ground.data }, { on := 14, ground := Go.Ground.data }], guard := none }) (v := ?_) rfl (by kernel_rfl) (by kernel_rfl) (by kernel_rfl) (fun _ _ _ h => h) (Or.inl ⟨by rfl, ?_⟩) S2.out ?_
  rotate_left
  · intro W hW; (go_simp; try with_reducible rfl)
  try simp only [Act.put, List.setIfInBounds_toArray, List.set_cons_zero, List.set_cons_succ]
  refine wpAnyH_take (i := 16) (oi := { dst := some 87, op := Go.Op.move (Go.Operand.tmp 86), type := 4, pos := _, after := #[{ on := 15, ground := Go.Ground.data }, { on := 11, ground := Go.Ground.chain }], guard := none }) (v := ?_) rfl (by kernel_rfl) (by kernel_rfl) (by kernel_rfl) (fun _ _ _ h => h) (Or.inl ⟨by rfl, ?_⟩) S2.out ?_
  rotate_left
  · intro W hW; (go_simp; try with_reducible rfl)
  try simp only [Act.put, List.setIfInBounds_toArray, List.set_cons_zero, List.set_cons_succ]
  refine wpAnyH_take (i := 17) (oi := { dst := some 88, op := Go.Op.load 27 (Go.Operand.tmp 9), type := 27, pos := _, after := #[{ on := 16, ground := Go.Ground.guard }], guard := some (16, true) }) (v := .agg a.cells.toArray) rfl (by kernel_rfl) (by kernel_rfl) (by kernel_rfl) (fun _ _ _ h => h) (yieldsIf_load_mid (by rfl) 27 (.tmp 9) rfl w10.heap.size 0 rfl a.cells _ (fun W hW => hW.two.range) Try.underlying27 rfl (size27 HA.out.ml)) S2.out ?_
  try simp only [Act.put, List.setIfInBounds_toArray, List.set_cons_zero, List.set_cons_succ]
  refine wpAnyH_take (i := 18) (oi := { dst := some 89, op := Go.Op.load 27 (Go.Operand.tmp 3), type := 27, pos := _, after := #[{ on := 16, ground := Go.Ground.guard }], guard := some (16, true) }) (v := .agg a.cells.toArray) rfl (by kernel_rfl) (by kernel_rfl) (by kernel_rfl) (fun _ _ _ h => h) (yieldsIf_load_mid (by rfl) 27 (.tmp 3) rfl w.heap.size 0 rfl a.cells _ (fun W hW => hW.one.range) Try.underlying27 rfl (size27 HA.out.ml)) S2.out ?_
  try simp only [Act.put, List.setIfInBounds_toArray, List.set_cons_zero, List.set_cons_succ]
  refine wpAnyH_take (i := 19) (oi := { dst := some 90, op := Go.Op.binOp Go.BinOp.eql 27 (Go.Operand.tmp 88) (Go.Operand.tmp 89) 27, type := 4, pos := _, after := #[{ on := 17, ground := Go.Ground.data }, { on := 18, ground := Go.Ground.data }, { on := 16, ground := Go.Ground.guard }], guard := some (16, true) }) (v := .bool true) rfl (by kernel_rfl) (by kernel_rfl) (by kernel_rfl) (fun _ _ _ h => h) (Or.inl ⟨by rfl, fun W hW => (decide_eq_true (rfl : a = a)) ▸ exec_eq_ky _ _ _ rfl a a rfl rfl HA.out.ml HA.out.ml⟩) S2.out ?_
  try simp only [Act.put, List.setIfInBounds_toArray, List.set_cons_zero, List.set_cons_succ]
  refine wpAnyH_take (i := 20) (oi := { dst := some 91, op := Go.Op.pick (Go.Operand.tmp 87) (Go.Operand.tmp 90) (Go.Operand.const (Go.Value.bool false)), type := 4, pos := _, after := #[{ on := 16, ground := Go.Ground.data }, { on := 19, ground := Go.Ground.data }], guard := none }) (v := ?_) rfl (by kernel_rfl) (by kernel_rfl) (by kernel_rfl) (fun _ _ _ h => h) (Or.inl ⟨by rfl, ?_⟩) S2.out ?_
  rotate_left
  · intro W hW; (go_simp; try with_reducible rfl)
  try simp only [Act.put, List.setIfInBounds_toArray, List.set_cons_zero, List.set_cons_succ]
  refine wpAnyH_take (i := 21) (oi := { dst := some 92, op := Go.Op.move (Go.Operand.tmp 91), type := 4, pos := _, after := #[{ on := 20, ground := Go.Ground.data }, { on := 16, ground := Go.Ground.chain }], guard := none }) (v := ?_) rfl (by kernel_rfl) (by kernel_rfl) (by kernel_rfl) (fun _ _ _ h => h) (Or.inl ⟨by rfl, ?_⟩) S2.out ?_
  rotate_left
  · intro W hW; (go_simp; try with_reducible rfl)
  try simp only [Act.put, List.setIfInBounds_toArray, List.set_cons_zero, List.set_cons_succ]
  refine wpAnyH_take (i := 22) (oi := { dst := some 93, op := Go.Op.move (Go.Operand.tmp 10), type := 30, pos := _, after := #[{ on := 21, ground := Go.Ground.guard }], guard := some (21, true) }) (v := ?_) rfl (by kernel_rfl) (by kernel_rfl) (by kernel_rfl) (fun _ _ _ h => h) (Or.inl ⟨by rfl, ?_⟩) S2.out ?_
  rotate_left
  · intro W hW; (go_simp; try with_reducible rfl)
  try simp only [Act.put, List.setIfInBounds_toArray, List.set_cons_zero, List.set_cons_succ]
  refine wpAnyH_take (i := 23) (oi := { dst := some 94, op := Go.Op.binOp Go.BinOp.eql 30 (Go.Operand.tmp 93) (Go.Operand.const (Go.Value.int Go.IntKind.i64 0)) 30, type := 4, pos := _, after := #[{ on := 22, ground := Go.Ground.data }, { on := 21, ground := Go.Ground.guard }], guard := some (21, true) }) (v := ?_) rfl (by kernel_rfl) (by kernel_rfl) (by kernel_rfl) (fun _ _ _ h => h) (Or.inl ⟨by rfl, ?_⟩) S2.out ?_
  rotate_left
  · intro W hW; (go_simp; try with_reducible rfl)
  try simp only [Act.put, List.setIfInBounds_toArray, List.set_cons_zero, List.set_cons_succ]
  refine wpAnyH_take (i := 24) (oi := { dst := some 95, op := Go.Op.pick (Go.Operand.tmp 92) (Go.Operand.tmp 94) (Go.Operand.const (Go.Value.bool false)), type := 4, pos := _, after := #[{ on := 21, ground := Go.Ground.data }, { on := 23, ground := Go.Ground.data }], guard := none }) (v := ?_) rfl (by kernel_rfl) (by kernel_rfl) (by kernel_rfl) (fun _ _ _ h => h) (Or.inl ⟨by rfl, ?_⟩) S2.out ?_
  rotate_left
  · intro W hW; (go_simp; try with_reducible rfl)
  try simp only [Act.put, List.setIfInBounds_toArray, List.set_cons_zero, List.set_cons_succ]
  refine wpAnyH_take (i := 25) (oi := { dst := some 96, op := Go.Op.move (Go.Operand.tmp 95), type := 4, pos := _, after := #[{ on := 24, ground := Go.Ground.data }, { on := 21, ground := Go.Ground.chain }], guard := none }) (v := ?_) rfl (by kernel_rfl) (by kernel_rfl) (by kernel_rfl) (fun _ _ _ h => h) (Or.inl ⟨by rfl, ?_⟩) S2.out ?_
  rotate_left
  · intro W hW; (go_simp; try with_reducible rfl)
  try simp only [Act.put, List.setIfInBounds_toArray, List.set_cons_zero, List.set_cons_succ]
  refine wpAnyH_ready (rs := [26]) (by kernel_rfl) (by simp) ?_
  refine AllReadyH.cons (o := { dst := some 97, op := Go.Op.call { callee := Go.Callee.value (Go.Operand.func 15), args := #[], argTypes := #[] }, type := 4, pos := _, after := #[{ on := 25, ground := Go.Ground.chain }, { on := 25, ground := Go.Ground.guard }], guard := some (25, true) }) rfl (fun K hK => ?_) AllReadyH.nil
  go_simp
  refine (alive_is _).mono ?_
  rintro e w14 ⟨rfl, b14⟩
  have S3 := Lib.hid (S2.out.below b14)
  clear b14
  go_wp2_with fail
  refine hK.out _ _ ?_ (fun _ => ?_)
  · exact S3.out
  clear hK K
  try simp only [Act.put, List.setIfInBounds_toArray, List.set_cons_zero, List.set_cons_succ]
  refine wpAnyH_take (i := 27) (oi := { dst := some 98, op := Go.Op.pick (Go.Operand.tmp 96) (Go.Operand.tmp 97) (Go.Operand.const (Go.Value.bool false)), type := 4, pos := _, after := #[{ on := 25, ground := Go.Ground.data }, { on := 26, ground := Go.Ground.data }], guard := none }) (v := ?_) rfl (by kernel_rfl) (by kernel_rfl) (by kernel_rfl) (fun _ _ _ h => h) (Or.inl ⟨by rfl, ?_⟩) S3.out ?_
  rotate_left
  · intro W hW; (go_simp; try with_reducible rfl)
  try simp only [Act.put, List.setIfInBounds_toArray, List.set_cons_zero, List.set_cons_succ]
  refine wpAnyH_take (i := 28) (oi := { dst := some 6, op := Go.Op.assign (Go.Operand.tmp 98), type := 4, pos := _, after := #[{ on := 27, ground := Go.Ground.data }, { on := 26, ground := Go.Ground.chain }, { on := 0, ground := Go.Ground.phase }, { on := 1, ground := Go.Ground.phase }, { on := 2, ground := Go.Ground.phase }, { on := 3, ground := Go.Ground.phase }, { on := 4, ground := Go.Ground.phase }, { on := 5, ground := Go.Ground.phase }, { on := 6, ground := Go.Ground.phase }, { on := 7, ground := Go.Ground.phase }, { on := 8, ground := Go.Ground.phase }, { on := 9, ground := Go.Ground.phase }, { on := 10, ground := Go.Ground.phase }, { on := 11, ground := Go.Ground.phase }, { on := 12, ground := Go.Ground.phase }, { on := 13, ground := Go.Ground.phase }, { on := 14, ground := Go.Ground.phase }, { on := 15, ground := Go.Ground.phase }, { on := 16, ground := Go.Ground.phase }, { on := 17, ground := Go.Ground.phase }, { on := 18, ground := Go.Ground.phase }, { on := 19, ground := Go.Ground.phase }, { on := 20, ground := Go.Ground.phase }, { on := 21, ground := Go.Ground.phase }, { on := 22, ground := Go.Ground.phase }, { on := 23, ground := Go.Ground.phase }, { on := 24, ground := Go.Ground.phase }, { on := 25, ground := Go.Ground.phase }, { on := 26, ground := Go.Ground.phase }, { on := 27, ground := Go.Ground.phase }], guard := none }) (v := ?_) rfl (by kernel_rfl) (by kernel_rfl) (by kernel_rfl) (fun _ _ _ h => h) (Or.inl ⟨by rfl, ?_⟩) S3.out ?_
  rotate_left
  · intro W hW; (go_simp; try with_reducible rfl)
  try simp only [Act.put, List.setIfInBounds_toArray, List.set_cons_zero, List.set_cons_succ]
  refine wpAnyH_done (by kernel_rfl) ?_ _
  refine NoPanic.normal ?_
  go_wp2_with fail
  go_ret
  exact ⟨rfl, S3.out.bel⟩
theorem keyBack_any (a b : Ky) (v : Value) (l : List Int) (w : World) (ha : a.Ok) (hb : b.Ok) (hl : BytesAt w v l) : Calls Try.prog 6 #[.agg a.cells.toArray, .agg b.cells.toArray, v] w fun e w' => e = .returned (.bool true) ∧ Below w.heap.size w w' := by
  have hl' := hl
  obtain ⟨ad, cap, rfl, _⟩ := hl
  by_cases h60 : 60 < l.length
  · exact kb_long a b ad l.length cap w h60
  · cases hr : a.right with
    | false => exact kb_false a b ad l cap w ha hb hl' (by omega) hr
    | true => exact kb_true a b ad l cap w ha hb hl' (by omega) hr
end Go.Proofs.Ytkjiehifnkkelaa
