/- The conditions of package tags as function values; the iterator over the tags of a row that meet one. -/
import Derived.Test.YtdigbipfchgjmaaGreatKeyT
import Derived.Test.YtdigbipfchgjmaaGreatKIn
import Derived.Test.YtdigbipfchgjmaaGreatLeq
namespace Go.Proofs.YtdigbipfchgjmaaGreat
open Go.RowKit

theorem nm_eq (m n : List Int) : (m == n) = true ↔ m = n := beq_iff_eq
set_option maxRecDepth 100000 in
theorem of1_is (c : Int) (m : List Int) (g2 g3 : Nat) (k : Ky) (v : Vl) (b : Bool) (w : World) (hk : k.Ok) (hm : m.length = 8) (h2 : Blk w g2 23 [.int .u16 c]) (h3 : Blk w g3 25 (nmL m)) (hb : Hid (pof c m k v = b)) :
    Calls Tryz.prog 47 #[.agg k.cells.toArray, .agg v.cells.toArray, .pointer (some ⟨g2, 0, none⟩), .pointer (some ⟨g3, 0, none⟩)] w fun e w' => e = .returned (.bool b) ∧ Below w.heap.size w w' := by
  have B0 := Lib.hid (step_ (new_below w (.cells k.cells.toArray 48)) (new_below _ (.cells v.cells.toArray 52)))
  have q := (blk_alloc w 48 k.cells).alloc (.cells v.cells.toArray 52)
  have c0 := q.cell (kc1 k)
  have c2 := ((h2.alloc (.cells k.cells.toArray 48)).alloc (.cells v.cells.toArray 52)).cell (i := 0) rfl
  have R1 := Lib.hid (q.knm hk.ml)
  have R3 := Lib.hid ((h3.alloc (.cells k.cells.toArray 48)).alloc (.cells v.cells.toArray 52)).range
  have HK := Lib.hid hk.ml
  have HM := Lib.hid hm
  have hh := hb.out
  unfold pof at hh
  clear q h2 h3 hk hm hb
  by_cases k1 : k.c = c
  · rw [decide_eq_true k1, Bool.true_and] at hh
    have E := Lib.hid hh
    clear hh
    go_enter Tryz.func47, Tryz.ntmps47
    go_wp2_with (first
      | (refine wanted_on rfl ?_; refine wpList_load_nm rfl _ rfl w.heap.size 2 k.m rfl R1.out HK.out ?_)
      | (refine wanted_on rfl ?_; refine wpList_load_nm rfl _ rfl g3 0 m rfl R3.out HM.out ?_)
      | (refine wanted_on rfl ?_; refine wpList_val rfl _ (exec_eq_nm _ _ _ rfl k.m m rfl rfl HK.out HM.out) ?_; rw [E.out]))
    go_ret
    exact ⟨rfl, B0.out⟩
  · rw [decide_eq_false k1, Bool.false_and] at hh
    subst hh
    go_enter Tryz.func47, Tryz.ntmps47
    go_wp2_with fail
    go_ret
    exact ⟨rfl, B0.out⟩
set_option maxRecDepth 100000 in
theorem in1_is (c : Int) (g2 : Nat) (k : Ky) (v : Vl) (b : Bool) (w : World) (h2 : Blk w g2 23 [.int .u16 c]) (hb : Hid (pin c k v = b)) :
    Calls Tryz.prog 49 #[.agg k.cells.toArray, .agg v.cells.toArray, .pointer (some ⟨g2, 0, none⟩)] w fun e w' => e = .returned (.bool b) ∧ Below w.heap.size w w' := by
  have B0 := Lib.hid (step_ (new_below w (.cells k.cells.toArray 48)) (new_below _ (.cells v.cells.toArray 52)))
  have c0 := ((blk_alloc w 48 k.cells).alloc (.cells v.cells.toArray 52)).cell (kc1 k)
  have c2 := ((h2.alloc (.cells k.cells.toArray 48)).alloc (.cells v.cells.toArray 52)).cell (i := 0) rfl
  have hh := hb.out
  unfold pin at hh
  clear h2 hb
  subst hh
  go_enter Tryz.func49, Tryz.ntmps49
  go_wp2_with fail
  go_ret
  exact ⟨rfl, B0.out⟩
/-- A condition as a function value: it answers p, and makes memory. -/
def CondF (gf : Nat) (lb : Array Value) (N : World → Prop) (p : Ky → Vl → Bool) : Prop :=
  ∀ (k : Ky) (v : Vl) (W : World), k.Ok → v.Ok → N W → Calls Tryz.prog gf (#[.agg k.cells.toArray, .agg v.cells.toArray] ++ lb) W fun e W' => e = .returned (.bool (p k v)) ∧ Below W.heap.size W W'
set_option maxRecDepth 100000 in
theorem there1_is (gf : Nat) (lb : Array Value) (eg : ∀ args w, (callFunc gf args).run Tryz.prog w = .ok (.enter gf args) w) (N : World → Prop) (p : Ky → Vl → Bool) (hc : CondF gf lb N p) (hNb : ∀ V V', N V → Below V.heap.size V V' → N V')
    (g : Nat) (k : Ky) (v : Vl) (b : Bool) (w : World) (hk : k.Ok) (hv : v.Ok) (h2 : Blk w g 65 [.func (.func gf) #[] lb]) (hN : N w) (hb : Hid (pth p k v = b)) :
    Calls Tryz.prog 48 #[.agg k.cells.toArray, .agg v.cells.toArray, .pointer (some ⟨g, 0, none⟩)] w fun e w' => e = .returned (.bool b) ∧ Below w.heap.size w w' := by
  have B0 := Lib.hid (step_ (new_below w (.cells k.cells.toArray 48)) (new_below _ (.cells v.cells.toArray 52)))
  have q := Lib.hid ((blk_alloc w 48 k.cells).alloc (.cells v.cells.toArray 52))
  have z := Lib.hid (blk2 w (.cells k.cells.toArray 48) 52 v.cells)
  have c0 := z.out.cell (vc0 v)
  have c2 := ((h2.alloc (.cells k.cells.toArray 48)).alloc (.cells v.cells.toArray 52)).cell (i := 0) rfl
  have NN := Lib.hid (hNb _ _ hN B0.out)
  have HC := Lib.hid hc
  have HK := Lib.hid hk
  have HV := Lib.hid hv
  have hh := hb.out
  unfold pth at hh
  clear h2 hk hv hb hN hc
  by_cases k1 : v.n = 1
  · rw [decide_eq_true k1, Bool.true_and] at hh
    have E := Lib.hid hh
    clear hh
    go_enter Tryz.func48, Tryz.ntmps48
    go_wp2_with (first
      | (refine wanted_on rfl ?_; refine wpList_load_ky rfl _ rfl w.heap.size 0 k rfl q.out.range HK.out.ml ?_)
      | (refine wanted_on rfl ?_; refine wpList_load_vl rfl _ rfl (w.heap.size + 1) 0 v rfl z.out.range HV.out.tl ?_))
    refine (HC.out k v _ HK.out HV.out NN.out).mono ?_
    rintro e w1 ⟨rfl, b1⟩
    have B1 := Lib.hid (step_ B0.out b1)
    clear b1
    rw [E.out]
    go_wp2_with fail
    go_ret
    exact ⟨rfl, B1.out⟩
  · rw [decide_eq_false k1, Bool.false_and] at hh
    subst hh
    go_enter Tryz.func48, Tryz.ntmps48
    go_wp2_with fail
    go_ret
    exact ⟨rfl, B0.out⟩
theorem of_cond (c : Int) (m : List Int) (hm : m.length = 8) (g2 g3 : Nat) : CondF 47 #[.pointer (some ⟨g2, 0, none⟩), .pointer (some ⟨g3, 0, none⟩)] (fun V => Blk V g2 23 [.int .u16 c] ∧ Blk V g3 25 (nmL m)) (pof c m) :=
  fun k v W hk _ h => of1_is c m g2 g3 k v _ W hk hm h.1 h.2 (Lib.hid rfl)
theorem in_cond (c : Int) (g2 : Nat) : CondF 49 #[.pointer (some ⟨g2, 0, none⟩)] (fun V => Blk V g2 23 [.int .u16 c]) (pin c) :=
  fun k v W _ _ h => in1_is c g2 k v _ W h (Lib.hid rfl)
theorem there_cond {gf : Nat} {lb : Array Value} (eg : ∀ args w, (callFunc gf args).run Tryz.prog w = .ok (.enter gf args) w) {N : World → Prop} {p : Ky → Vl → Bool} (hc : CondF gf lb N p) (hNb : ∀ V V', N V → Below V.heap.size V V' → N V') (g : Nat) :
    CondF 48 #[.pointer (some ⟨g, 0, none⟩)] (fun V => Blk V g 65 [.func (.func gf) #[] lb] ∧ N V) (pth p) :=
  fun k v W hk hv h => there1_is gf lb eg N p hc hNb g k v _ W hk hv h.1 h.2 (Lib.hid rfl)
set_option maxRecDepth 100000 in
theorem of_is (c : Int) (m : List Int) (w : World) : Calls Tryz.prog 30 #[.int .u16 c, .agg (nm m)] w fun e w' => (∃ g h, e = .returned (.func (.func 47) #[] #[.pointer (some ⟨g, 0, none⟩), .pointer (some ⟨h, 0, none⟩)]) ∧ Blk w' g 23 [.int .u16 c] ∧ Blk w' h 25 (nmL m) ∧ w.heap.size ≤ g ∧ w.heap.size ≤ h) ∧ Below w.heap.size w w' := by
  go_enter Tryz.func30, Tryz.ntmps30
  go_wp2_with fail
  go_ret
  exact ⟨⟨w.heap.size, w.heap.size + 1, by simp, (blk_alloc w 23 [.int .u16 c]).alloc _, blk2 w (.cells #[.int .u16 c] 23) 25 (nmL m), Nat.le_refl _, Nat.le_add_right _ _⟩, step_ (new_below w _) (new_below _ _)⟩
set_option maxRecDepth 100000 in
theorem there_is (gf : Nat) (lb : Array Value) (w : World) : Calls Tryz.prog 31 #[.func (.func gf) #[] lb] w fun e w' => (∃ g, e = .returned (.func (.func 48) #[] #[.pointer (some ⟨g, 0, none⟩)]) ∧ Blk w' g 65 [.func (.func gf) #[] lb] ∧ w.heap.size ≤ g) ∧ Below w.heap.size w w' := by
  go_enter Tryz.func31, Tryz.ntmps31
  go_wp2_with fail
  go_ret
  exact ⟨⟨w.heap.size, rfl, blk_alloc w 65 [.func (.func gf) #[] lb], Nat.le_refl _⟩, new_below w _⟩
set_option maxRecDepth 100000 in
theorem in_is (c : Int) (w : World) : Calls Tryz.prog 32 #[.int .u16 c] w fun e w' => (∃ g, e = .returned (.func (.func 49) #[] #[.pointer (some ⟨g, 0, none⟩)]) ∧ Blk w' g 23 [.int .u16 c] ∧ w.heap.size ≤ g) ∧ Below w.heap.size w w' := by
  go_enter Tryz.func32, Tryz.ntmps32
  go_wp2_with fail
  go_ret
  exact ⟨⟨w.heap.size, rfl, blk_alloc w 23 [.int .u16 c], Nat.le_refl _⟩, new_below w _⟩
set_option maxRecDepth 100000 in
theorem picks_is (A : Option Addr) (n cap : Nat) (gf : Nat) (lb : Array Value) (w : World) : Calls Tryz.prog 29 #[.slice A n cap, .func (.func gf) #[] lb] w fun e w' => (∃ g h, e = .returned (.func (.func 45) #[] #[.pointer (some ⟨g, 0, none⟩), .pointer (some ⟨h, 0, none⟩)]) ∧ Blk w' g 22 [.slice A n cap] ∧ Blk w' h 65 [.func (.func gf) #[] lb] ∧ w.heap.size ≤ g ∧ w.heap.size ≤ h) ∧ Below w.heap.size w w' := by
  go_enter Tryz.func29, Tryz.ntmps29
  go_wp2_with fail
  go_ret
  exact ⟨⟨w.heap.size, w.heap.size + 1, by simp, (blk_alloc w 22 [.slice A n cap]).alloc _, blk2 w (.cells #[.slice A n cap] 22) 65 [.func (.func gf) #[] lb], Nat.le_refl _, Nat.le_add_right _ _⟩, step_ (new_below w _) (new_below _ _)⟩
end Go.Proofs.YtdigbipfchgjmaaGreat
