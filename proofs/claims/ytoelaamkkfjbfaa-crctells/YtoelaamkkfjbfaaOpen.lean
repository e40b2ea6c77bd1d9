/- The contracts of Equal of package bytes, of Open of package crc and of Open of the reference. -/
import Derived.Test.YtoelaamkkfjbfaaSealed
import Derived.Laws.BytesArg
import Derived.Lib.Bytes
namespace Go.Proofs.Ytoelaamkkfjbfaa
open Go.RowKit

theorem str_of {w : World} {a : Option Addr} {cap : Nat} {l : List Int} (h : BytesAt w (.slice a l.length cap) l) : (convert 22 9 (.slice a l.length cap)).run Try.prog w = .ok (.string (strOfNums l)) w := by
  obtain ⟨a', cap', hv, hcap, hb, hc⟩ := h
  injection hv with h1 h2 h3
  subst h1; subst h3
  by_cases h0 : 0 < l.length
  · obtain ⟨g, off, rfl, _, hcell⟩ := hc h0
    exact run_convert_bytes_arg (P := Try.prog) w 22 5 Try.underlying22 Try.underlying5 g off l.length cap l rfl (fun i hi => by rw [hcell i hi, List.getD_eq_getElem?_getD, List.getElem?_eq_getElem hi]; rfl) 9 Try.underlying9
  · obtain rfl : l = [] := List.eq_nil_of_length_eq_zero (by omega)
    show (convert 22 9 (.slice a 0 cap)).run Try.prog w = .ok (.string ByteArray.empty) w
    rw [run_convert_bytes_string w 22 9 5 _ 0 cap Try.underlying22 Try.underlying5 Try.underlying9]
    cases a <;> simp [Conv.bytesToString, loadCells]
    all_goals rfl
theorem byte_inj {x y : Int} (hx : 0 ≤ x ∧ x < 256) (hy : 0 ≤ y ∧ y < 256) (h : UInt8.ofNat x.toNat = UInt8.ofNat y.toNat) : x = y := by
  have := congrArg UInt8.toNat h
  simp at this
  omega
theorem bytes_inj : ∀ {l m : List Int}, M.Bytes l → M.Bytes m → (l.map fun n => UInt8.ofNat n.toNat) = (m.map fun n => UInt8.ofNat n.toNat) → l = m
  | [], [], _, _, _ => rfl
  | [], _ :: _, _, _, h => by simp at h
  | _ :: _, [], _, _, h => by simp at h
  | x :: l, y :: m, hl, hm, h => by
    rw [List.map_cons, List.map_cons] at h
    injection h with h1 h2
    rw [byte_inj (hl x (List.mem_cons_self ..)) (hm y (List.mem_cons_self ..)) h1, bytes_inj (fun z hz => hl z (List.mem_cons_of_mem _ hz)) (fun z hz => hm z (List.mem_cons_of_mem _ hz)) h2]
theorem str_eq {l m : List Int} (hl : M.Bytes l) (hm : M.Bytes m) : ((strOfNums l).toList == (strOfNums m).toList) = decide (l = m) := by
  rw [Lib.strOfNums_toList, Lib.strOfNums_toList, Bool.eq_iff_iff, beq_iff_eq, decide_eq_true_iff]
  exact ⟨fun h => bytes_inj hl hm h, fun h => by rw [h]⟩
theorem equal_is (v1 v2 : Value) (l1 l2 : List Int) (b : Bool) (w : World) (h1 : BytesAt w v1 l1) (h2 : BytesAt w v2 l2) (hb : Hid (decide (l1 = l2) = b)) :
    Calls Try.prog 18 #[v1, v2] w fun e w' => e = .returned (.bool b) ∧ w = w' := by
  have hs := Lib.hid (str_eq h1.bytes h2.bytes)
  have k1 := h1
  have k2 := h2
  obtain ⟨a1, cap1, rfl, -, -, -⟩ := h1
  obtain ⟨a2, cap2, rfl, -, -, -⟩ := h2
  have q1 := str_of k1
  have q2 := str_of k2
  generalize strOfNums l1 = t1 at hs q1
  generalize strOfNums l2 = t2 at hs q2
  clear k1 k2
  go_enter Try.func18, Try.ntmps18
  go_wp2_with fail
  go_ret
  exact ⟨ret_bool (hs.out.trans hb.out), rfl⟩
theorem bytes_take {w : World} {g off cap : Nat} {l : List Int} (j c : Nat) (hj : j ≤ l.length) (hc : j ≤ c) (h : BytesAt w (.slice (some ⟨g, off, none⟩) l.length cap) l) : BytesAt w (.slice (some ⟨g, off, none⟩) j c) (l.take j) := by
  obtain ⟨a, cap', hv, hcap, hb, hcc⟩ := h
  injection hv with h1 h2 h3
  subst h1; subst h3
  have hl : (l.take j).length = j := by rw [List.length_take]; omega
  refine ⟨_, _, by rw [hl], ⟨by rw [hl]; omega, fun h => by cases h⟩, hb.take j, fun h0 => ?_⟩
  rw [hl] at h0
  obtain ⟨g', off', ha, hg, hcell⟩ := hcc (by omega)
  refine ⟨g', off', ha, hg, fun i hi => ?_⟩
  rw [hl] at hi
  rw [hcell i (by omega), List.getElem_take]
/-- What Open answers: the bytes, and the code. -/
def okB (l : List Int) : Bool := decide (sealI (l.take (l.length - 2)) = l)
def openL (l : List Int) : List Int := if l.length < 2 then [] else if okB l then l.take (l.length - 2) else []
def openE (l : List Int) : Int := if l.length < 2 then 4 else if okB l then 0 else 5
def Opens (w : World) (l : List Int) (e : Ending) (w' : World) : Prop := ∃ v, e = .returned (.tuple #[v, .int .i64 (openE l)]) ∧ BytesAt w' v (openL l) ∧ Below w.heap.size w w'
theorem opens_short {w w' : World} {l : List Int} {e : Ending} (h : l.length < 2) (he : e = .returned (.tuple #[.slice none 0 0, .int .i64 4])) (hb : Below w.heap.size w w') : Opens w l e w' :=
  ⟨_, by rw [he]; unfold openE; rw [if_pos h], by unfold openL; rw [if_pos h]; exact bytes_nil _, hb⟩
theorem opens_bad {w w' : World} {l : List Int} {e : Ending} (h : ¬ l.length < 2) (ho : okB l = false) (he : e = .returned (.tuple #[.slice none 0 0, .int .i64 5])) (hb : Below w.heap.size w w') : Opens w l e w' :=
  ⟨_, by rw [he]; unfold openE; rw [if_neg h, ho]; rfl, by unfold openL; rw [if_neg h, ho]; exact bytes_nil _, hb⟩
theorem opens_good {w w' : World} {l : List Int} {e : Ending} {v : Value} (h : ¬ l.length < 2) (ho : okB l = true) (he : e = .returned (.tuple #[v, .int .i64 0])) (hv : BytesAt w' v (l.take (l.length - 2))) (hb : Below w.heap.size w w') : Opens w l e w' :=
  ⟨v, by rw [he]; unfold openE; rw [if_neg h, ho]; rfl, by unfold openL; rw [if_neg h, ho]; exact hv, hb⟩
set_option maxRecDepth 100000 in
theorem open_is (u : Value) (l : List Int) (w : World) (h : BytesAt w u l) (hl : l.length ≤ 400) : Calls Try.prog 10 #[u] w (Opens w l) := by
  by_cases h2 : l.length < 2
  · obtain ⟨a, cap, rfl, -, -, -⟩ := h
    have hneg : (l.length : Int) - 2 < 0 := by omega
    go_enter Try.func10, Try.ntmps10
    go_wp2_with fail
    go_ret2
    exact opens_short h2 rfl (Below.refl _ _)
  · obtain ⟨n, hn⟩ : ∃ n, l.length = n + 2 := ⟨l.length - 2, by omega⟩
    have hbs := h.bytes
    have H := Lib.hid h
    obtain ⟨a, cap, rfl, ⟨hcap, -⟩, -, hc⟩ := h
    obtain ⟨g, off, rfl, -, -⟩ := hc (by omega)
    clear hc
    have HT := Lib.hid (bytes_take n cap (by omega) (by omega) H.out)
    have HBS := Lib.hid hbs
    have hok : okB l = decide (sealI (l.take n) = l) := by unfold okB; rw [hn]; rfl
    have htl : (l.take n).length = n := by rw [List.length_take]; omega
    have hsl := seal_len (l.take n)
    rw [htl] at hsl
    have HOK := Lib.hid hok
    have HTL := Lib.hid htl
    have HSL := Lib.hid hsl
    have HN := Lib.hid hn
    have HBS2 := Lib.hid (seal_bytes (hbs.take n))
    obtain ⟨S1, hS1⟩ : ∃ S1, sealI (l.take n) = S1 := ⟨_, rfl⟩
    have HS1 := Lib.hid hS1
    rw [hS1] at HOK HSL HBS2
    rw [hn] at H hcap
    clear hbs hok htl hsl hS1
    rw [hn]
    have hn400 : n ≤ 398 := by omega
    have n0 : (0 : Int) ≤ (n : Int) := by omega
    have n1 : (n : Int) ≤ (cap : Int) := by omega
    have nz : ¬ (n : Int) < 0 := by omega
    clear hn
    go_enter Try.func10, Try.ntmps10
    go_wp2_with fail
    refine (seal_is _ (l.take n) _ HT.out (by have := HTL.out; omega)).mono ?_
    rw [HS1.out]
    rintro e w1 ⟨v, rfl, hown, b1⟩
    have HV := Lib.hid (bytes_of_owns hown HBS2.out)
    obtain ⟨g2, cap2, f, rfl, -, hc2, -, -⟩ := own_row (l := S1) (by simpa using hown) (by have := HSL.out; omega)
    rw [HSL.out] at HV hc2 ⊢
    have B1 := Lib.hid b1
    clear hown b1
    have HB := Lib.hid (H.out.below B1.out)
    go_wp2_with fail
    cases hb : okB l with
    | false =>
      have HK := Lib.hid (show decide (S1 = l) = false by rw [← HOK.out]; exact hb)
      have HKB := Lib.hid hb
      clear hb
      refine (equal_is _ _ S1 l false _ HV.out HB.out HK).mono ?_
      rintro e w' ⟨rfl, rfl⟩
      go_wp2_with fail
      go_ret2
      exact opens_bad h2 HKB.out rfl B1.out
    | true =>
      have HK := Lib.hid (show decide (S1 = l) = true by rw [← HOK.out]; exact hb)
      have HKB := Lib.hid hb
      clear hb
      refine (equal_is _ _ S1 l true _ HV.out HB.out HK).mono ?_
      rintro e w' ⟨rfl, rfl⟩
      have m1 : (n : Int) ≤ (cap2 : Int) := by omega
      have HE := Lib.hid (show BytesAt w1 (.slice (some ⟨g2, 0, none⟩) n n) (l.take n) by
        have e1 : S1 = l := by have := HK.out; simpa using this
        have := HV.out
        rw [← HSL.out] at this
        have := bytes_take n n (by have := HSL.out; omega) (Nat.le_refl _) this
        rw [e1] at this
        exact this)
      go_wp2_with fail
      go_ret2
      exact opens_good h2 HKB.out rfl (by rw [HN.out]; exact HE.out) B1.out
theorem cut_two (l : List Int) (n : Nat) (hn : l.length = n + 2) : l = l.take n ++ [l[n], l[n + 1]] := by
  apply List.ext_getElem
  · simp; omega
  · intro i h1 h2
    rw [List.getElem_append]
    split
    · rw [List.getElem_take]
    · rename_i h
      rw [List.length_take, Nat.min_eq_left (by omega)] at h
      have : i = n ∨ i = n + 1 := by omega
      rcases this with rfl | rfl
      · simp [show min i l.length = i by omega]
      · simp [show min n l.length = n by omega, show n + 1 - n = 1 by omega]
theorem ok_iff (l p : List Int) (x y : Int) (hp : l.take (l.length - 2) = p) (hl : l = p ++ [x, y]) : okB l = (decide (S (sumV p) / 256 = x) && decide (S (sumV p) % 256 = y)) := by
  unfold okB
  rw [hp, hl, ← Bool.decide_and]
  unfold sealI
  congr 1
  simp
set_option maxRecDepth 100000 in
theorem refOpen_is (u : Value) (l : List Int) (w : World) (h : BytesAt w u l) (hl : l.length ≤ 400) : Calls Try.prog 11 #[u] w (Opens w l) := by
  by_cases h2 : l.length < 2
  · obtain ⟨a, cap, rfl, -, -, -⟩ := h
    have hneg : (l.length : Int) < 2 := by omega
    go_enter Try.func11, Try.ntmps11
    go_wp2_with fail
    go_ret2
    exact opens_short h2 rfl (Below.refl _ _)
  · obtain ⟨n, hn⟩ : ∃ n, l.length = n + 2 := ⟨l.length - 2, by omega⟩
    have hbs := h.bytes
    have H := Lib.hid h
    obtain ⟨a, cap, rfl, ⟨hcap, -⟩, -, hc⟩ := h
    obtain ⟨g, off, rfl, -, hcell⟩ := hc (by omega)
    clear hc
    have HT := Lib.hid (bytes_take n cap (by omega) (by omega) H.out)
    have hcut := cut_two l n hn
    have q0 := hcell n (by omega)
    have q1 := hcell (n + 1) (by omega)
    obtain ⟨x, hx⟩ : ∃ x, l[n] = x := ⟨_, rfl⟩
    obtain ⟨y, hy⟩ : ∃ y, l[n + 1] = y := ⟨_, rfl⟩
    rw [hx] at q0 hcut
    rw [hy] at q1 hcut
    have hok := ok_iff l (l.take n) x y (by rw [hn]; rfl) hcut
    obtain ⟨r, hr⟩ : ∃ r, S (sumV (l.take n)) = r := ⟨_, rfl⟩
    have hrg := S_range (sumV (l.take n))
    rw [hr] at hok hrg
    obtain ⟨hr0, hr1⟩ := hrg
    have HR := Lib.hid hr
    have HOK := Lib.hid hok
    have HTL := Lib.hid (show (l.take n).length = n by rw [List.length_take]; omega)
    have HN := Lib.hid hn
    clear hx hy hcut hcell hok hr hbs
    have e1 : r.tdiv 256 = r / 256 := Int.tdiv_eq_ediv_of_nonneg hr0
    have e2 : IntKind.u16.wrap (r / 256) = r / 256 := by rw [IntKind.wrap_u16]; omega
    have e3 : r / 256 % 256 = r / 256 := by omega
    have n0 : (0 : Int) ≤ (n : Int) := by omega
    have n1 : (n : Int) ≤ (cap : Int) := by omega
    have hn400 : n ≤ 398 := by omega
    rw [hn]
    clear hn H
    go_enter Try.func11, Try.ntmps11
    go_wp2_with fail
    refine (refSum_is _ (l.take n) r _ HT.out (by have := HTL.out; omega) HR).mono ?_
    rintro e w1 ⟨rfl, rfl⟩
    by_cases k0 : r / 256 = x
    · by_cases k1 : r % 256 = y
      · have hk : okB l = true := by rw [HOK.out, decide_eq_true k0, decide_eq_true k1]; rfl
        have HK := Lib.hid hk
        clear hk
        go_wp2_with fail
        go_ret2
        exact opens_good h2 HK.out rfl (by rw [HN.out]; exact HT.out) (Below.refl _ _)
      · have hk : okB l = false := by rw [HOK.out, decide_eq_false k1, Bool.and_false]
        have HK := Lib.hid hk
        clear hk
        go_wp2_with fail
        go_ret2
        exact opens_bad h2 HK.out rfl (Below.refl _ _)
    · have hk : okB l = false := by rw [HOK.out, decide_eq_false k0, Bool.false_and]
      have HK := Lib.hid hk
      clear hk
      go_wp2_with fail
      go_ret2
      exact opens_bad h2 HK.out rfl (Below.refl _ _)
end Go.Proofs.Ytoelaamkkfjbfaa
