/- The contract of In of the reference, and the walk of KeyReads. -/
import Derived.Test.YtkjiehifnkkelaaLaws
import Derived.Test.YtkjiehifnkkelaaKOut
import Derived.Test.YtkjiehifnkkelaaKIn
import Derived.Test.YtkjiehifnkkelaaKRead
namespace Go.Proofs.Ytkjiehifnkkelaa
open Go.RowKit

theorem rdByte (g : Nat) (R : Option Nat) (e : Int) (l : List Int) (res : M.Got Int) (hr : M.gate e (M.rByte l) = res) : RdP g R (blank 1) e l (pByte (res.val 0)) res.err res.rst := fun W hW => by
  have h := refRead_is g R e (blank 1) l W hW ⟨rfl, zero8_bytes, by decide, by decide, by decide, by decide, by decide, bytes_nil W⟩
  have hg : M.gate e (M.rd (blank 1).d (blank 1).x (blank 1).n l) = res.map fun c => (⟨0, c, M.zero8, []⟩ : M.Val) := by
    rw [← hr, ← M.gate_map]; rfl
  rw [hg] at h
  refine h.mono ?_
  rintro r w' ⟨v, hv, _, hc, ho⟩
  refine ⟨v, ?_, ?_, ho⟩
  · rw [hv]; cases res <;> rfl
  · rw [M.Got.map_err, M.Got.map_rst] at hc; exact hc
theorem rdNum (g : Nat) (R : Option Nat) (e most : Int) (l : List Int) (res : M.Got Int) (h0 : 0 ≤ most) (h1 : most < 18446744073709551616) (hr : M.gate e (M.rNum most l) = res) : RdP g R (pNum most (.slice none 0 0)) e l (pNum (res.val 0)) res.err res.rst := fun W hW => by
  have h := refRead_is g R e (pNum most (.slice none 0 0)) l W hW ⟨rfl, zero8_bytes, h0, h1, by show (0 : Int) ≤ 0; decide, by show (0 : Int) < _; decide, by show (0 : Int) < _; decide, bytes_nil W⟩
  have hg : M.gate e (M.rd (pNum most (.slice none 0 0)).d (pNum most (.slice none 0 0)).x (pNum most (.slice none 0 0)).n l) = res.map fun x => (⟨x, 0, M.zero8, []⟩ : M.Val) := by
    rw [← hr, ← M.gate_map]; rfl
  rw [hg] at h
  refine h.mono ?_
  rintro r w' ⟨v, hv, _, hc, ho⟩
  refine ⟨v, ?_, ?_, ho⟩
  · rw [hv]; cases res <;> rfl
  · rw [M.Got.map_err, M.Got.map_rst] at hc; exact hc
theorem rdName (g : Nat) (R : Option Nat) (e : Int) (l : List Int) (res : M.Got (List Int)) (hr : M.gate e (M.rName l) = res) : RdP g R (blank 2) e l (pName (res.val M.zero8)) res.err res.rst := fun W hW => by
  have h := refRead_is g R e (blank 2) l W hW ⟨rfl, zero8_bytes, by decide, by decide, by decide, by decide, by decide, bytes_nil W⟩
  have hg : M.gate e (M.rd (blank 2).d (blank 2).x (blank 2).n l) = res.map fun m => (⟨0, 0, m, []⟩ : M.Val) := by
    rw [← hr, ← M.gate_map]; rfl
  rw [hg] at h
  refine h.mono ?_
  rintro r w' ⟨v, hv, _, hc, ho⟩
  refine ⟨v, ?_, ?_, ho⟩
  · rw [hv]; cases res <;> rfl
  · rw [M.Got.map_err, M.Got.map_rst] at hc; exact hc
/-- Where a check does not fail, it leaves what it found. -/
theorem fs_same {α : Type} {b : Bool} {x : Int} {res : M.Got α} (h : res.err = 0 → b = true) : fs b x (res.err, res.rst) = (res.err, res.rst) := by
  cases res with
  | bad e =>
    by_cases he : e = 0
    · have hb : b = true := h he
      rw [hb]; rfl
    · exact fs_bad he
  | got a r => have hb : b = true := h rfl; rw [hb]; rfl
theorem fin_to {l : List Int} {w w' : World} {g : Nat} {R : Option Nat} {p : Int × List Int} {k k' : Ky} {e : Int} {l' : List Int} {r : Ending} (hf : Fin l p k) (hp : p = (e, l')) (hk : e = 0 → k' = k) (hz : e ≠ 0 → k' = kzero) (h : Ins w g R k' e l' r w') : Ins w g R ((rKey l).val kzero) (rKey l).err (rKey l).rst r w' := by
  subst hp
  have he : e = (rKey l).err := hf.err
  have hl : l' = (rKey l).rst := hf.rst
  by_cases h0 : e = 0
  · have hv : k = (rKey l).val kzero := hf.val h0
    rw [← he, ← hl, ← hv, ← hk h0]; exact h
  · have hv : (rKey l).val kzero = kzero := by
      cases hq : rKey l with
      | bad e => rfl
      | got k r => rw [hq] at he; exact absurd he h0
    rw [← he, ← hl, hv, ← hz h0]; exact h
/-- What fails at a check. -/
theorem bad_to {l : List Int} {w w' : World} {g : Nat} {R : Option Nat} {e : Int} {r : Ending} (hk : rKey l = .bad e) (h : Ins w g R kzero e [] r w') : Ins w g R ((rKey l).val kzero) (rKey l).err (rKey l).rst r w' := by rw [hk]; exact h
theorem refIn_is (g : Nat) (R : Option Nat) (l : List Int) (w : World) (h : RefAt w g R 0 l) (hb : M.Bytes l) :
    Calls Try.prog 23 #[.pointer (some ⟨g, 0, none⟩)] w (Ins w g R ((rKey l).val kzero) (rKey l).err (rKey l).rst) := by
  have H1 := rdByte g R 0 l (s1 l) rfl
  by_cases hF1 : (s1 l).err = 0 ∧ sortB ((s1 l).val 0) = false
  · obtain ⟨z1, hs⟩ := hF1
    have hp : p1 l = (3, []) := by unfold p1; rw [z1, hs]; rfl
    have hk : rKey l = .bad 3 := by
      rcases first l with ⟨e, _, hp', hk, _⟩ | ⟨s, l1, _, _, _, _, hp'⟩
      · rw [hp] at hp'; injection hp' with hp' _; rw [hk, hp']
      · rw [hp] at hp'; injection hp' with hp' _; omega
    rw [z1] at H1
    by_cases a1 : (s1 l).val 0 < 1
    · exact (inFa g R l _ _ w h (Lib.hid H1) a1).mono fun _ _ hh => bad_to hk hh
    · have a2 : 4 < (s1 l).val 0 := by unfold sortB at hs; simp only [Bool.and_eq_false_iff, decide_eq_false_iff_not] at hs; omega
      exact (inFb g R l _ _ w h (Lib.hid H1) a1 a2).mono fun _ _ hh => bad_to hk hh
  have hp1 : p1 l = ((s1 l).err, (s1 l).rst) := fs_same fun h0 => by
    cases hq : sortB ((s1 l).val 0) with
    | true => rfl
    | false => exact absurd ⟨h0, hq⟩ hF1
  have H2 := rdNum g R (s1 l).err 65535 (s1 l).rst (s2 l) (by decide) (by decide) (by unfold s2; rw [hp1])
  have cr : 0 ≤ (s2 l).val 0 ∧ (s2 l).val 0 ≤ 65535 := gate_num (bytes_p1 hb) (by decide)
  have cw : IntKind.u16.wrap ((s2 l).val 0) = (s2 l).val 0 := by rw [IntKind.wrap_u16]; omega
  have H3 := rdName g R (s2 l).err (s2 l).rst (s3 l) rfl
  have ML := s3_len l
  -- the sort is one of the four, unless there is an error
  have hsort : (s1 l).err = 0 → ¬ (s1 l).val 0 < 1 ∧ ¬ 4 < (s1 l).val 0 := fun h0 => by
    cases hq : sortB ((s1 l).val 0) with
    | true => unfold sortB at hq; simp only [Bool.and_eq_true, decide_eq_true_eq] at hq; omega
    | false => exact absurd ⟨h0, hq⟩ hF1
  by_cases z1 : (s1 l).err = 0
  · obtain ⟨a1, a2⟩ := hsort z1
    rw [z1] at H1 H2
    by_cases h4 : (s1 l).val 0 = 4
    · by_cases z2 : (s2 l).err = 0
      · rw [z2] at H2
        exact (in4o g R l _ _ _ _ w h (Lib.hid H1) a1 a2 (Lib.hid H2) cw (Lib.hid h4)).mono fun _ _ hh => fin_to (fin4 l h4) (by rw [z2]) (fun _ => rfl) (fun h => absurd rfl h) hh
      · exact (in4b g R l _ _ _ _ _ w h (Lib.hid H1) a1 a2 z2 (Lib.hid H2) cw (Lib.hid h4)).mono fun _ _ hh => fin_to (fin4 l h4) rfl (fun h => absurd h z2) (fun _ => rfl) hh
    · by_cases hF3 : (s3 l).err = 0 ∧ ((s3 l).val M.zero8 == M.zero8) = true
      · obtain ⟨z3, hm⟩ := hF3
        have hp : p3 l = (3, []) := by unfold p3; rw [z3]; show fs (!((s3 l).val M.zero8 == M.zero8)) 3 _ = _; rw [hm]; rfl
        have hk : rKey l = .bad 3 := by
          rcases third l h4 with ⟨e, _, hp', hk⟩ | ⟨s, c, m, l1, l2, l3, _, _, _, _, _, _, _, _, _, hp'⟩
          · rw [hp] at hp'; injection hp' with hp' _; rw [hk, hp']
          · rw [hp] at hp'; injection hp' with hp' _; omega
        rw [z3] at H3
        exact (inF3 g R l _ _ _ _ _ _ _ w h (Lib.hid H1) a1 a2 (Lib.hid H2) cw h4 (Lib.hid H3) (Lib.hid ML) (Lib.hid hm)).mono fun _ _ hh => bad_to hk hh
      have hp3 : p3 l = ((s3 l).err, (s3 l).rst) := fs_same fun h0 => by
        show (!((s3 l).val M.zero8 == M.zero8)) = true
        cases hq : ((s3 l).val M.zero8 == M.zero8) with
        | false => rfl
        | true => exact absurd ⟨h0, hq⟩ hF3
      have H4 := rdByte g R (s3 l).err (s3 l).rst (s4 l) (by unfold s4; rw [hp3])
      by_cases hF4 : (s4 l).err = 0 ∧ 16 ≤ (s4 l).val 0
      · obtain ⟨z4, hr⟩ := hF4
        have hp : p4 l = (2, []) := by unfold p4; rw [z4, decide_eq_false (by omega)]; rfl
        have hk : rKey l = .bad 2 := by
          rcases fourth l h4 with ⟨e, _, hp', hk⟩ | ⟨s, c, m, r, l1, l2, l3, l4, _, _, _, _, _, _, _, _, _, _, _, _, hp'⟩
          · rw [hp] at hp'; injection hp' with hp' _; rw [hk, hp']
          · rw [hp] at hp'; injection hp' with hp' _; omega
        rw [z4] at H4
        have z3 : (s3 l).err = 0 := by
          cases hq : (s3 l).err == 0 with
          | true => simpa using hq
          | false =>
            have hne : (s3 l).err ≠ 0 := by simpa using hq
            have : s4 l = .bad (s3 l).err := by unfold s4; rw [hp3]; exact M.gate_bad hne _
            rw [this] at z4
            exact absurd z4 hne
        rw [z3] at H3 H4
        have MZ : ((s3 l).val M.zero8 == M.zero8) = false := by
          cases hq : ((s3 l).val M.zero8 == M.zero8) with
          | false => rfl
          | true => exact absurd ⟨z3, hq⟩ hF3
        exact (inF4 g R l _ _ _ _ _ _ _ _ _ w h (Lib.hid H1) a1 a2 (Lib.hid H2) cw h4 (Lib.hid H3) (Lib.hid ML) (Lib.hid MZ) (Lib.hid H4) hr).mono fun _ _ hh => bad_to hk hh
      have hp4 : p4 l = ((s4 l).err, (s4 l).rst) := fs_same fun h0 => by
        apply decide_eq_true
        by_cases h16 : (s4 l).val 0 < 16
        · exact h16
        · exact absurd ⟨h0, by omega⟩ hF4
      have H5 := rdNum g R (s4 l).err 4294967295 (s4 l).rst (s5 l) (by decide) (by decide) (by unfold s5; rw [hp4])
      have qr : 0 ≤ (s5 l).val 0 ∧ (s5 l).val 0 ≤ 4294967295 := gate_num (bytes_p4 hb) (by decide)
      have qw : IntKind.u32.wrap ((s5 l).val 0) = (s5 l).val 0 := by rw [IntKind.wrap_u32]; omega
      have up4 : (s3 l).err ≠ 0 → (s4 l).err ≠ 0 := fun hne => by
        have : s4 l = .bad (s3 l).err := by unfold s4; rw [hp3]; exact M.gate_bad hne _
        rw [this]; exact hne
      have up5 : (s4 l).err ≠ 0 → (s5 l).err ≠ 0 := fun hne => by
        have : s5 l = .bad (s4 l).err := by unfold s5; rw [hp4]; exact M.gate_bad hne _
        rw [this]; exact hne
      have MZ : (s3 l).err = 0 → ((s3 l).val M.zero8 == M.zero8) = false := fun z3 => by
        cases hq : ((s3 l).val M.zero8 == M.zero8) with
        | false => rfl
        | true => exact absurd ⟨z3, hq⟩ hF3
      have R16 : (s4 l).err = 0 → ¬ 16 ≤ (s4 l).val 0 := fun z4 hr => hF4 ⟨z4, hr⟩
      by_cases h1 : (s1 l).val 0 = 1
      · by_cases z3 : (s3 l).err = 0
        · have mz := MZ z3
          rw [z3] at H3 H4
          by_cases z4 : (s4 l).err = 0
          · have r16 := R16 z4
            rw [z4] at H4 H5
            by_cases z5 : (s5 l).err = 0
            · rw [z5] at H5
              by_cases q0 : (s5 l).val 0 = 0
              · have hp : p5 l = (3, []) := by unfold p5; rw [z5, q0]; rfl
                have hf := fin1 l h1 qr.1
                exact (inF5 g R l _ _ _ _ _ _ _ _ _ _ _ w h (Lib.hid H1) a1 a2 (Lib.hid H2) cw h4 (Lib.hid H3) (Lib.hid ML) (Lib.hid mz) (Lib.hid H4) r16 (Lib.hid h1) (Lib.hid H5) qw (Lib.hid q0)).mono fun _ _ hh => fin_to hf hp (fun h => absurd h (by decide)) (fun _ => rfl) hh
              · have hp : p5 l = (0, (s5 l).rst) := by unfold p5; rw [z5, decide_eq_true (by omega)]; rfl
                exact (in1o g R l _ _ _ _ _ _ _ _ _ _ _ w h (Lib.hid H1) a1 a2 (Lib.hid H2) cw h4 (Lib.hid H3) (Lib.hid ML) (Lib.hid mz) (Lib.hid H4) r16 (Lib.hid h1) (Lib.hid H5) qw q0).mono fun _ _ hh => fin_to (fin1 l h1 qr.1) hp (fun _ => rfl) (fun h => absurd rfl h) hh
            · have hp : p5 l = ((s5 l).err, (s5 l).rst) := fs_same fun h0 => absurd h0 z5
              exact (in1d g R l _ _ _ _ _ _ _ _ _ _ _ _ w h (Lib.hid H1) a1 a2 (Lib.hid H2) cw h4 (Lib.hid H3) (Lib.hid ML) (Lib.hid mz) (Lib.hid H4) r16 (Lib.hid h1) z5 (Lib.hid H5) qw).mono fun _ _ hh => fin_to (fin1 l h1 qr.1) hp (fun h => absurd h z5) (fun _ => rfl) hh
          · have z5 := up5 z4
            have hp : p5 l = ((s5 l).err, (s5 l).rst) := fs_same fun h0 => absurd h0 z5
            exact (in1c g R l _ _ _ _ _ _ _ _ _ _ _ _ _ w h (Lib.hid H1) a1 a2 (Lib.hid H2) cw h4 (Lib.hid H3) (Lib.hid ML) (Lib.hid mz) z4 (Lib.hid H4) (Lib.hid h1) z5 (Lib.hid H5) qw).mono fun _ _ hh => fin_to (fin1 l h1 qr.1) hp (fun h => absurd h z5) (fun _ => rfl) hh
        · have z4 := up4 z3
          have z5 := up5 z4
          have hp : p5 l = ((s5 l).err, (s5 l).rst) := fs_same fun h0 => absurd h0 z5
          exact (in1b g R l _ _ _ _ _ _ _ _ _ _ _ _ _ _ w h (Lib.hid H1) a1 a2 (Lib.hid H2) cw h4 z3 (Lib.hid H3) (Lib.hid ML) z4 (Lib.hid H4) (Lib.hid h1) z5 (Lib.hid H5) qw).mono fun _ _ hh => fin_to (fin1 l h1 qr.1) hp (fun h => absurd h z5) (fun _ => rfl) hh
      · have hf := fin2 l h4 h1
        by_cases z3 : (s3 l).err = 0
        · have mz := MZ z3
          rw [z3] at H3 H4
          by_cases z4 : (s4 l).err = 0
          · have r16 := R16 z4
            rw [z4] at H4
            exact (in2o g R l _ _ _ _ _ _ _ _ _ w h (Lib.hid H1) a1 a2 (Lib.hid H2) cw h4 (Lib.hid H3) (Lib.hid ML) (Lib.hid mz) (Lib.hid H4) r16 h1).mono fun _ _ hh => fin_to hf (by rw [hp4, z4]) (fun _ => rfl) (fun h => absurd rfl h) hh
          · exact (in2c g R l _ _ _ _ _ _ _ _ _ _ w h (Lib.hid H1) a1 a2 (Lib.hid H2) cw h4 (Lib.hid H3) (Lib.hid ML) (Lib.hid mz) z4 (Lib.hid H4) h1).mono fun _ _ hh => fin_to hf hp4 (fun h => absurd h z4) (fun _ => rfl) hh
        · have z4 := up4 z3
          exact (in2b g R l _ _ _ _ _ _ _ _ _ _ _ w h (Lib.hid H1) a1 a2 (Lib.hid H2) cw h4 z3 (Lib.hid H3) (Lib.hid ML) z4 (Lib.hid H4) h1).mono fun _ _ hh => fin_to hf hp4 (fun h => absurd h z4) (fun _ => rfl) hh
  · -- the sort could not be read
    have hsv : (s1 l).val 0 = 0 := by
      cases hq : s1 l with
      | bad e => rfl
      | got a r => rw [hq] at z1; exact absurd rfl z1
    have h4 : ¬ (s1 l).val 0 = 4 := by rw [hsv]; decide
    have h1 : ¬ (s1 l).val 0 = 1 := by rw [hsv]; decide
    have e2 : s2 l = .bad (s1 l).err := by unfold s2; rw [hp1]; exact M.gate_bad z1 _
    have e3 : s3 l = .bad (s1 l).err := by unfold s3; rw [e2]; exact M.gate_bad z1 _
    have hp3 : p3 l = ((s3 l).err, (s3 l).rst) := fs_same fun h0 => by rw [e3] at h0; exact absurd h0 z1
    have e4 : s4 l = .bad (s1 l).err := by unfold s4; rw [hp3, e3]; exact M.gate_bad z1 _
    have hp4 : p4 l = ((s4 l).err, (s4 l).rst) := fs_same fun h0 => by rw [e4] at h0; exact absurd h0 z1
    have z3 : ¬ (s3 l).err = 0 := by rw [e3]; exact z1
    have z4 : ¬ (s4 l).err = 0 := by rw [e4]; exact z1
    have H4 := rdByte g R (s3 l).err (s3 l).rst (s4 l) (by unfold s4; rw [hp3])
    exact (in2a g R l _ _ _ _ _ _ _ _ _ _ _ _ w h z1 (Lib.hid H1) (Lib.hid H2) cw h4 z3 (Lib.hid H3) (Lib.hid ML) z4 (Lib.hid H4) h1).mono fun _ _ hh => fin_to (fin2 l h4 h1) hp4 (fun h => absurd h z4) (fun _ => rfl) hh
theorem ref_new {w : World} {R : Option Nat} {v : Value} {l : List Int} (h : BytesIn R w v l) (hR : ∀ r, R = some r → r < w.heap.size) (hl : l.length ≤ 30000) : RefAt (w.alloc (.cells #[v, .int .i64 0] 49)) w.heap.size R 0 l :=
  ⟨v, ⟨blk_alloc w 49 [v, .int .i64 0], h.alloc _, fun e => Nat.lt_irrefl _ (hR _ e), fun r hr => by have := hR r hr; simp; omega⟩, fun h => absurd rfl h, hl⟩
theorem kenc_len {k : Ky} (h : k.Ok) : (kenc k).length ≤ 40 := by
  have h1 := M.var_ten k.c h.c0 (by have := h.c1; omega)
  have h2 := M.var_ten k.q h.q0 (by have := h.q1; omega)
  have h3 : (M.text k.m).length ≤ 8 := h.ml ▸ M.text_len k.m
  unfold kenc
  split
  · simp; omega
  · split <;> simp <;> omega
theorem rKey_len {l : List Int} (hb : M.Bytes l) : ((rKey l).val kzero).m.length = 8 := by
  obtain ⟨k, e', l', hf, hm, _⟩ := readFields_is 0 none l hb
  have he : e' = (rKey l).err := hf.err
  by_cases h0 : e' = 0
  · rw [← hf.val h0]; exact hm
  · cases hq : rKey l with
    | bad e => rfl
    | got k r => rw [hq] at he; exact absurd he h0
def Holds_ (w : World) (e : Ending) (w' : World) : Prop := e = .returned (.bool true) ∧ Below w.heap.size w w'
theorem kr_long (k : Ky) (ad : Option Addr) (n cap : Nat) (w : World) (hn : 100 < n) : Calls Try.prog 4 #[.agg k.cells.toArray, .slice ad n cap] w (Holds_ w) := by
  have k1 : (100 : Int) < (n : Int) := by omega
  have B0 := Lib.hid (new_below w (.cells k.cells.toArray 27))
  clear hn
  go_enter Try.func4, Try.ntmps4
  go_wp2_with fail
  refine (alive_is _).mono ?_
  rintro e w1 ⟨rfl, b1⟩
  have B1 := Lib.hid (step_ B0.out b1)
  clear b1
  go_wp2_with fail
  go_ret
  exact ⟨rfl, B1.out⟩
/-- What holds of every world behind both reads. -/
structure RS (w : World) (gm : Nat) (e : Int) (v : Value) (W : World) : Prop where
  bel : Below w.heap.size w W
  lt : gm < W.heap.size
  one : W.cell? ⟨gm, 1, none⟩ = some (.int .i64 e)
  nul : W.cell? ⟨gm, 0, none⟩ = some v
theorem RS.below {w : World} {gm : Nat} {e : Int} {v : Value} {W W' : World} (h : RS w gm e v W) (hb : Below W.heap.size W W') : RS w gm e v W' :=
  ⟨step_ h.bel hb, Nat.lt_of_lt_of_le h.lt hb.size, (hb.cell (p := ⟨gm, 1, none⟩) h.lt).trans h.one, (hb.cell (p := ⟨gm, 0, none⟩) h.lt).trans h.nul⟩
theorem rs_of {w W : World} {gm : Nat} {R : Option Nat} {e : Int} {l : List Int} (hb : Below w.heap.size w W) (h : RefAt W gm R e l) : ∃ a cap, RS w gm e (.slice a l.length cap) W := by
  obtain ⟨v, hc, _, _⟩ := h
  obtain ⟨a, cap, rfl⟩ := hc.2.1.shape
  exact ⟨a, cap, hb, hc.1.lt, hc.1.cell (i := 1) rfl, hc.1.cell (i := 0) rfl⟩
set_option maxRecDepth 100000 in
set_option maxHeartbeats 4000000 in
theorem kr_false (k : Ky) (ad : Option Addr) (l rs : List Int) (cap : Nat) (kk : Ky) (ee : Int) (w : World) (hk : k.Ok) (hl : BytesAt w (.slice ad l.length cap) l) (hn : l.length ≤ 100) (hr : k.right = false)
    (HKR : Hid (∀ gc R W, CurAt W gc R 0 l → Calls Try.prog 22 #[.pointer (some ⟨gc, 0, none⟩)] W (ReadsK W gc R kk ee rs))) (HKI : Hid (∀ gm R W, RefAt W gm R 0 l → Calls Try.prog 23 #[.pointer (some ⟨gm, 0, none⟩)] W (Ins W gm R kk ee rs))) (KL : Hid (kk.m.length = 8)) :
    Calls Try.prog 4 #[.agg k.cells.toArray, .slice ad l.length cap] w (Holds_ w) := by
  have k1 : ¬ (100 : Int) < (l.length : Int) := by omega
  have HK := Lib.hid hk
  have HV := Lib.hid hl
  have HN := Lib.hid hn
  have HR := Lib.hid hr
  have A0 := Lib.hid (blk_alloc w 27 k.cells)
  have B0 := Lib.hid (new_below w (.cells k.cells.toArray 27))
  clear hk hl hn hr
  go_enter Try.func4, Try.ntmps4
  go_wp2_with (refine wpList_load_ky rfl _ rfl w.heap.size 0 k rfl A0.out.range HK.out.ml ?_)
  refine (refKright_is k false _ HK.out HR).mono ?_
  rintro e w1 ⟨rfl, b1⟩
  have A1 := Lib.hid (A0.out.below b1)
  have B1 := Lib.hid (step_ B0.out b1)
  clear b1
  go_wp2_with fail
  refine (from_is _ l _ (HV.out.below B1.out) (by have := HN.out; omega)).mono ?_
  rintro e w8 ⟨gc, R, rfl, hgc, hc8, b8⟩
  have B8 := Lib.hid (step_ B1.out b8)
  have F8 := Lib.hid (hc8.far (Nat.le_refl _))
  have C8 := Lib.hid (hc8.alloc (.cells #[.slice ad l.length cap, .int .i64 0] 49))
  obtain ⟨Rm, hRm, hRml⟩ := HV.out.in_
  have M8 := Lib.hid (ref_new (hRm.below B8.out) (fun r hr => Nat.lt_of_lt_of_le (hRml r hr) B8.out.size) (by have := HN.out; omega))
  have RG := Lib.hid (show Rm ≠ some gc from fun e => by have := hRml gc e; have := B1.out.size; omega)
  have GW := Lib.hid (show w.heap.size ≤ gc from Nat.le_trans B1.out.size hgc)
  have GM := Lib.hid B8.out.size
  have S8 := Lib.hid (step_ B8.out (new_below w8 (.cells #[.slice ad l.length cap, .int .i64 0] 49)))
  clear hc8 b8 hgc hRm hRml
  go_wp2_with fail
  have S1 := Lib.hid (below_drew S8.out)
  have C1 := Lib.hid (C8.out.below (below_drew (Below.refl _ _)))
  have M1 := Lib.hid (M8.out.below (below_drew (Below.refl _ _)))
  refine wp_region_noPanic ?_
  refine wp_region_held_drew (S := fun W => Below w.heap.size w W) (by kernel_rfl) S1.out (fun _ => ?_)
  refine wpAnyH_take (i := 0) (oi := { dst := some 29, op := Go.Op.move (Go.Operand.tmp 6), type := 45, pos := _, after := #[], guard := none }) (v := ?_) rfl (by kernel_rfl) (by kernel_rfl) (by kernel_rfl) (fun _ _ _ h => h) (Or.inl ⟨by rfl, ?_⟩) S1.out ?_
  rotate_left
  · intro W hW; (go_simp; try with_reducible rfl)
  try simp only [Act.put, List.setIfInBounds_toArray, List.set_cons_zero, List.set_cons_succ]
  refine wpAnyH_take (i := 2) (oi := { dst := some 31, op := Go.Op.move (Go.Operand.tmp 7), type := 47, pos := _, after := #[], guard := none }) (v := ?_) rfl (by kernel_rfl) (by kernel_rfl) (by kernel_rfl) (fun _ _ _ h => h) (Or.inl ⟨by rfl, ?_⟩) S1.out ?_
  rotate_left
  · intro W hW; (go_simp; try with_reducible rfl)
  try simp only [Act.put, List.setIfInBounds_toArray, List.set_cons_zero, List.set_cons_succ]
  refine wpAnyH_ready (rs := [1]) (by kernel_rfl) (by simp) ?_
  refine AllReadyH.cons (o := { dst := some 30, op := Go.Op.call { callee := Go.Callee.value (Go.Operand.func 22), args := #[Go.Operand.tmp 29], argTypes := #[45] }, type := 27, pos := _, after := #[{ on := 0, ground := Go.Ground.data }], guard := none }) rfl (fun K hK => ?_) AllReadyH.nil
  go_simp
  refine (HKR.out gc R _ C1.out).mono ?_
  rintro e w12 ⟨rfl, hc12, ho12⟩
  have S2 := Lib.hid (S1.out.trans (ho12.below GW.out S1.out.size))
  have C2 := Lib.hid hc12
  have M2 := Lib.hid (M1.out.only ho12 (fun e => F8.out.1 e.symm) RG.out)
  clear hc12 ho12
  go_wp2_with fail
  refine hK.out _ _ ?_ (fun _ => ?_)
  · exact S2.out
  clear hK K
  try simp only [Act.put, List.setIfInBounds_toArray, List.set_cons_zero, List.set_cons_succ]
  refine wpAnyH_ready (rs := [3]) (by kernel_rfl) (by simp) ?_
  refine AllReadyH.cons (o := { dst := some 32, op := Go.Op.call { callee := Go.Callee.value (Go.Operand.func 23), args := #[Go.Operand.tmp 31], argTypes := #[47] }, type := 27, pos := _, after := #[{ on := 2, ground := Go.Ground.data }, { on := 1, ground := Go.Ground.chain }], guard := none }) rfl (fun K hK => ?_) AllReadyH.nil
  go_simp
  refine (HKI.out w8.heap.size Rm _ M2.out).mono ?_
  rintro e w13 ⟨rfl, hm13, ho13⟩
  have S3 := Lib.hid (S2.out.trans (ho13.below GM.out S2.out.size))
  have C3 := Lib.hid (C2.out.only ho13 F8.out.1 F8.out.2)
  obtain ⟨a13, cap13, hs13⟩ := rs_of S3.out hm13
  have S4 := Lib.hid hs13
  clear hm13 ho13 hs13
  go_wp2_with fail
  refine hK.out _ _ ?_ (fun _ => ?_)
  · exact S3.out
  clear hK K
  try simp only [Act.put, List.setIfInBounds_toArray, List.set_cons_zero, List.set_cons_succ]
  refine wpAnyH_narrow (S' := RS w w8.heap.size ee (.slice a13 rs.length cap13)) (fun W hW => hW.bel) _ _ _ _ ?_
  refine wpAnyH_take (i := 4) (oi := { dst := some 33, op := Go.Op.binOp Go.BinOp.eql 27 (Go.Operand.tmp 30) (Go.Operand.tmp 32) 27, type := 4, pos := _, after := #[{ on := 1, ground := Go.Ground.data }, { on := 3, ground := Go.Ground.data }], guard := none }) (v := .bool true) rfl (by kernel_rfl) (by kernel_rfl) (by kernel_rfl) (fun _ _ _ h => h) (Or.inl ⟨by rfl, fun W hW => (decide_eq_true (rfl : kk = kk)) ▸ exec_eq_ky _ _ _ rfl kk kk rfl rfl KL.out KL.out⟩) S4.out ?_
  try simp only [Act.put, List.setIfInBounds_toArray, List.set_cons_zero, List.set_cons_succ]
  refine wpAnyH_take (i := 5) (oi := { dst := some 34, op := Go.Op.move (Go.Operand.tmp 33), type := 4, pos := _, after := #[{ on := 4, ground := Go.Ground.data }, { on := 3, ground := Go.Ground.chain }], guard := none }) (v := ?_) rfl (by kernel_rfl) (by kernel_rfl) (by kernel_rfl) (fun _ _ _ h => h) (Or.inl ⟨by rfl, ?_⟩) S4.out ?_
  rotate_left
  · intro W hW; (go_simp; try with_reducible rfl)
  try simp only [Act.put, List.setIfInBounds_toArray, List.set_cons_zero, List.set_cons_succ]
  refine wpAnyH_take (i := 6) (oi := { dst := some 35, op := Go.Op.move (Go.Operand.tmp 6), type := 45, pos := _, after := #[{ on := 5, ground := Go.Ground.guard }], guard := some (5, true) }) (v := ?_) rfl (by kernel_rfl) (by kernel_rfl) (by kernel_rfl) (fun _ _ _ h => h) (Or.inl ⟨by rfl, ?_⟩) S4.out ?_
  rotate_left
  · intro W hW; (go_simp; try with_reducible rfl)
  try simp only [Act.put, List.setIfInBounds_toArray, List.set_cons_zero, List.set_cons_succ]
  refine wpAnyH_take (i := 8) (oi := { dst := some 37, op := Go.Op.move (Go.Operand.tmp 7), type := 47, pos := _, after := #[{ on := 5, ground := Go.Ground.guard }], guard := some (5, true) }) (v := ?_) rfl (by kernel_rfl) (by kernel_rfl) (by kernel_rfl) (fun _ _ _ h => h) (Or.inl ⟨by rfl, ?_⟩) S4.out ?_
  rotate_left
  · intro W hW; (go_simp; try with_reducible rfl)
  try simp only [Act.put, List.setIfInBounds_toArray, List.set_cons_zero, List.set_cons_succ]
  refine wpAnyH_take (i := 9) (oi := { dst := some 38, op := Go.Op.nilCheck (Go.Operand.tmp 37), type := 0, pos := _, after := #[{ on := 8, ground := Go.Ground.data }, { on := 5, ground := Go.Ground.guard }], guard := some (5, true) }) (v := ?_) rfl (by kernel_rfl) (by kernel_rfl) (by kernel_rfl) (fun _ _ _ h => h) (Or.inl ⟨by rfl, ?_⟩) S4.out ?_
  rotate_left
  · intro W hW; (go_simp; try with_reducible rfl)
  try simp only [Act.put, List.setIfInBounds_toArray, List.set_cons_zero, List.set_cons_succ]
  refine wpAnyH_take (i := 10) (oi := { dst := some 39, op := Go.Op.fieldAddr 49 (Go.Operand.tmp 38) 1, type := 0, pos := _, after := #[{ on := 9, ground := Go.Ground.data }, { on := 5, ground := Go.Ground.guard }], guard := some (5, true) }) (v := ?_) rfl (by kernel_rfl) (by kernel_rfl) (by kernel_rfl) (fun _ _ _ h => h) (Or.inl ⟨by rfl, ?_⟩) S4.out ?_
  rotate_left
  · intro W hW; (go_simp; try with_reducible rfl)
  try simp only [Act.put, List.setIfInBounds_toArray, List.set_cons_zero, List.set_cons_succ]
  refine wpAnyH_take (i := 11) (oi := { dst := some 40, op := Go.Op.load 30 (Go.Operand.tmp 39), type := 30, pos := _, after := #[{ on := 10, ground := Go.Ground.data }, { on := 5, ground := Go.Ground.guard }], guard := some (5, true) }) (v := ?_) rfl (by kernel_rfl) (by kernel_rfl) (by kernel_rfl) (fun _ _ _ h => h) (Or.inl ⟨by rfl, ?_⟩) S4.out ?_
  rotate_left
  · intro W hW; have c1 := hW.one; (go_simp; try with_reducible rfl)
  try simp only [Act.put, List.setIfInBounds_toArray, List.set_cons_zero, List.set_cons_succ]
  refine wpAnyH_ready (rs := [7]) (by kernel_rfl) (by simp) ?_
  refine AllReadyH.cons (o := { dst := some 36, op := Go.Op.call { callee := Go.Callee.value (Go.Operand.func 24), args := #[Go.Operand.tmp 35], argTypes := #[45] }, type := 30, pos := _, after := #[{ on := 6, ground := Go.Ground.data }, { on := 5, ground := Go.Ground.chain }, { on := 5, ground := Go.Ground.guard }], guard := some (5, true) }) rfl (fun K hK => ?_) AllReadyH.nil
  go_simp
  refine (curErrK_is gc R ee rs _ C3.out).mono ?_
  rintro e w14 ⟨rfl, rfl⟩
  go_wp2_with fail
  refine hK.out _ _ ?_ (fun _ => ?_)
  · exact S4.out
  clear hK K
  try simp only [Act.put, List.setIfInBounds_toArray, List.set_cons_zero, List.set_cons_succ]
  refine wpAnyH_take (i := 12) (oi := { dst := some 41, op := Go.Op.binOp Go.BinOp.eql 30 (Go.Operand.tmp 36) (Go.Operand.tmp 40) 30, type := 4, pos := _, after := #[{ on := 7, ground := Go.Ground.data }, { on := 11, ground := Go.Ground.data }, { on := 5, ground := Go.Ground.guard }], guard := some (5, true) }) (v := ?_) rfl (by kernel_rfl) (by kernel_rfl) (by kernel_rfl) (fun _ _ _ h => h) (Or.inl ⟨by rfl, ?_⟩) S4.out ?_
  rotate_left
  · intro W hW; (go_simp; try with_reducible rfl)
  try simp only [Act.put, List.setIfInBounds_toArray, List.set_cons_zero, List.set_cons_succ]
  refine wpAnyH_take (i := 13) (oi := { dst := some 42, op := Go.Op.pick (Go.Operand.tmp 34) (Go.Operand.tmp 41) (Go.Operand.const (Go.Value.bool false)), type := 4, pos := _, after := #[{ on := 5, ground := Go.Ground.data }, { on := 12, ground := Go.Ground.data }], guard := none }) (v := ?_) rfl (by kernel_rfl) (by kernel_rfl) (by kernel_rfl) (fun _ _ _ h => h) (Or.inl ⟨by rfl, ?_⟩) S4.out ?_
  rotate_left
  · intro W hW; (go_simp; try with_reducible rfl)
  try simp only [Act.put, List.setIfInBounds_toArray, List.set_cons_zero, List.set_cons_succ]
  refine wpAnyH_take (i := 14) (oi := { dst := some 43, op := Go.Op.move (Go.Operand.tmp 42), type := 4, pos := _, after := #[{ on := 13, ground := Go.Ground.data }, { on := 7, ground := Go.Ground.chain }], guard := none }) (v := ?_) rfl (by kernel_rfl) (by kernel_rfl) (by kernel_rfl) (fun _ _ _ h => h) (Or.inl ⟨by rfl, ?_⟩) S4.out ?_
  rotate_left
  · intro W hW; (go_simp; try with_reducible rfl)
  try simp only [Act.put, List.setIfInBounds_toArray, List.set_cons_zero, List.set_cons_succ]
  refine wpAnyH_take (i := 15) (oi := { dst := some 44, op := Go.Op.move (Go.Operand.tmp 6), type := 45, pos := _, after := #[{ on := 14, ground := Go.Ground.guard }], guard := some (14, true) }) (v := ?_) rfl (by kernel_rfl) (by kernel_rfl) (by kernel_rfl) (fun _ _ _ h => h) (Or.inl ⟨by rfl, ?_⟩) S4.out ?_
  rotate_left
  · intro W hW; (go_simp; try with_reducible rfl)
  try simp only [Act.put, List.setIfInBounds_toArray, List.set_cons_zero, List.set_cons_succ]
  refine wpAnyH_take (i := 17) (oi := { dst := some 46, op := Go.Op.move (Go.Operand.tmp 7), type := 47, pos := _, after := #[{ on := 14, ground := Go.Ground.guard }], guard := some (14, true) }) (v := ?_) rfl (by kernel_rfl) (by kernel_rfl) (by kernel_rfl) (fun _ _ _ h => h) (Or.inl ⟨by rfl, ?_⟩) S4.out ?_
  rotate_left
  · intro W hW; (go_simp; try with_reducible rfl)
  try simp only [Act.put, List.setIfInBounds_toArray, List.set_cons_zero, List.set_cons_succ]
  refine wpAnyH_take (i := 18) (oi := { dst := some 47, op := Go.Op.nilCheck (Go.Operand.tmp 46), type := 0, pos := _, after := #[{ on := 17, ground := Go.Ground.data }, { on := 14, ground := Go.Ground.guard }], guard := some (14, true) }) (v := ?_) rfl (by kernel_rfl) (by kernel_rfl) (by kernel_rfl) (fun _ _ _ h => h) (Or.inl ⟨by rfl, ?_⟩) S4.out ?_
  rotate_left
  · intro W hW; (go_simp; try with_reducible rfl)
  try simp only [Act.put, List.setIfInBounds_toArray, List.set_cons_zero, List.set_cons_succ]
  refine wpAnyH_take (i := 19) (oi := { dst := some 48, op := Go.Op.fieldAddr 49 (Go.Operand.tmp 47) 0, type := 0, pos := _, after := #[{ on := 18, ground := Go.Ground.data }, { on := 14, ground := Go.Ground.guard }], guard := some (14, true) }) (v := ?_) rfl (by kernel_rfl) (by kernel_rfl) (by kernel_rfl) (fun _ _ _ h => h) (Or.inl ⟨by rfl, ?_⟩) S4.out ?_
  rotate_left
  · intro W hW; (go_simp; try with_reducible rfl)
  try simp only [Act.put, List.setIfInBounds_toArray, List.set_cons_zero, List.set_cons_succ]
  refine wpAnyH_take (i := 20) (oi := { dst := some 49, op := Go.Op.load 38 (Go.Operand.tmp 48), type := 38, pos := _, after := #[{ on := 19, ground := Go.Ground.data }, { on := 14, ground := Go.Ground.guard }], guard := some (14, true) }) (v := ?_) rfl (by kernel_rfl) (by kernel_rfl) (by kernel_rfl) (fun _ _ _ h => h) (Or.inl ⟨by rfl, ?_⟩) S4.out ?_
  rotate_left
  · intro W hW; have c1 := hW.nul; (go_simp; try with_reducible rfl)
  try simp only [Act.put, List.setIfInBounds_toArray, List.set_cons_zero, List.set_cons_succ]
  refine wpAnyH_take (i := 21) (oi := { dst := some 50, op := Go.Op.call { callee := Go.Callee.builtin Go.Builtin.len, args := #[Go.Operand.tmp 49], argTypes := #[38] }, type := 3, pos := _, after := #[{ on := 20, ground := Go.Ground.data }, { on := 14, ground := Go.Ground.guard }], guard := some (14, true) }) (v := ?_) rfl (by kernel_rfl) (by kernel_rfl) (by kernel_rfl) (fun _ _ _ h => h) (Or.inl ⟨by rfl, ?_⟩) S4.out ?_
  rotate_left
  · intro W hW; (go_simp; try with_reducible rfl)
  try simp only [Act.put, List.setIfInBounds_toArray, List.set_cons_zero, List.set_cons_succ]
  refine wpAnyH_ready (rs := [16]) (by kernel_rfl) (by simp) ?_
  refine AllReadyH.cons (o := { dst := some 45, op := Go.Op.call { callee := Go.Callee.value (Go.Operand.func 25), args := #[Go.Operand.tmp 44], argTypes := #[45] }, type := 3, pos := _, after := #[{ on := 15, ground := Go.Ground.data }, { on := 14, ground := Go.Ground.chain }, { on := 14, ground := Go.Ground.guard }], guard := some (14, true) }) rfl (fun K hK => ?_) AllReadyH.nil
  go_simp
  refine (curLeftK_is gc R ee rs _ C3.out).mono ?_
  rintro e w14 ⟨rfl, rfl⟩
  go_wp2_with fail
  refine hK.out _ _ ?_ (fun _ => ?_)
  · exact S4.out
  clear hK K
  try simp only [Act.put, List.setIfInBounds_toArray, List.set_cons_zero, List.set_cons_succ]
  refine wpAnyH_take (i := 22) (oi := { dst := some 51, op := Go.Op.binOp Go.BinOp.eql 3 (Go.Operand.tmp 45) (Go.Operand.tmp 50) 3, type := 4, pos := _, after := #[{ on := 16, ground := Go.Ground.data }, { on := 21, ground := Go.Ground.data }, { on := 14, ground := Go.Ground.guard }], guard := some (14, true) }) (v := ?_) rfl (by kernel_rfl) (by kernel_rfl) (by kernel_rfl) (fun _ _ _ h => h) (Or.inl ⟨by rfl, ?_⟩) S4.out ?_
  rotate_left
  · intro W hW; (go_simp; try with_reducible rfl)
  try simp only [Act.put, List.setIfInBounds_toArray, List.set_cons_zero, List.set_cons_succ]
  refine wpAnyH_take (i := 23) (oi := { dst := some 52, op := Go.Op.pick (Go.Operand.tmp 43) (Go.Operand.tmp 51) (Go.Operand.const (Go.Value.bool false)), type := 4, pos := _, after := #[{ on := 14, ground := Go.Ground.data }, { on := 22, ground := Go.Ground.data }], guard := none }) (v := ?_) rfl (by kernel_rfl) (by kernel_rfl) (by kernel_rfl) (fun _ _ _ h => h) (Or.inl ⟨by rfl, ?_⟩) S4.out ?_
  rotate_left
  · intro W hW; (go_simp; try with_reducible rfl)
  try simp only [Act.put, List.setIfInBounds_toArray, List.set_cons_zero, List.set_cons_succ]
  refine wpAnyH_take (i := 24) (oi := { dst := some 53, op := Go.Op.move (Go.Operand.tmp 52), type := 4, pos := _, after := #[{ on := 23, ground := Go.Ground.data }, { on := 16, ground := Go.Ground.chain }], guard := none }) (v := ?_) rfl (by kernel_rfl) (by kernel_rfl) (by kernel_rfl) (fun _ _ _ h => h) (Or.inl ⟨by rfl, ?_⟩) S4.out ?_
  rotate_left
  · intro W hW; (go_simp; try with_reducible rfl)
  try simp only [Act.put, List.setIfInBounds_toArray, List.set_cons_zero, List.set_cons_succ]
  refine wpAnyH_ready (rs := [25]) (by kernel_rfl) (by simp) ?_
  refine AllReadyH.cons (o := { dst := some 54, op := Go.Op.call { callee := Go.Callee.value (Go.Operand.func 15), args := #[], argTypes := #[] }, type := 4, pos := _, after := #[{ on := 24, ground := Go.Ground.chain }, { on := 24, ground := Go.Ground.guard }], guard := some (24, true) }) rfl (fun K hK => ?_) AllReadyH.nil
  go_simp
  refine (alive_is _).mono ?_
  rintro e w14 ⟨rfl, b14⟩
  have S5 := Lib.hid (S4.out.below b14)
  clear b14
  go_wp2_with fail
  refine hK.out _ _ ?_ (fun _ => ?_)
  · exact S5.out
  clear hK K
  try simp only [Act.put, List.setIfInBounds_toArray, List.set_cons_zero, List.set_cons_succ]
  refine wpAnyH_take (i := 26) (oi := { dst := some 55, op := Go.Op.pick (Go.Operand.tmp 53) (Go.Operand.tmp 54) (Go.Operand.const (Go.Value.bool false)), type := 4, pos := _, after := #[{ on := 24, ground := Go.Ground.data }, { on := 25, ground := Go.Ground.data }], guard := none }) (v := ?_) rfl (by kernel_rfl) (by kernel_rfl) (by kernel_rfl) (fun _ _ _ h => h) (Or.inl ⟨by rfl, ?_⟩) S5.out ?_
  rotate_left
  · intro W hW; (go_simp; try with_reducible rfl)
  try simp only [Act.put, List.setIfInBounds_toArray, List.set_cons_zero, List.set_cons_succ]
  refine wpAnyH_take (i := 27) (oi := { dst := some 4, op := Go.Op.assign (Go.Operand.tmp 55), type := 4, pos := _, after := #[{ on := 26, ground := Go.Ground.data }, { on := 25, ground := Go.Ground.chain }, { on := 0, ground := Go.Ground.phase }, { on := 1, ground := Go.Ground.phase }, { on := 2, ground := Go.Ground.phase }, { on := 3, ground := Go.Ground.phase }, { on := 4, ground := Go.Ground.phase }, { on := 5, ground := Go.Ground.phase }, { on := 6, ground := Go.Ground.phase }, { on := 7, ground := Go.Ground.phase }, { on := 8, ground := Go.Ground.phase }, { on := 9, ground := Go.Ground.phase }, { on := 10, ground := Go.Ground.phase }, { on := 11, ground := Go.Ground.phase }, { on := 12, ground := Go.Ground.phase }, { on := 13, ground := Go.Ground.phase }, { on := 14, ground := Go.Ground.phase }, { on := 15, ground := Go.Ground.phase }, { on := 16, ground := Go.Ground.phase }, { on := 17, ground := Go.Ground.phase }, { on := 18, ground := Go.Ground.phase }, { on := 19, ground := Go.Ground.phase }, { on := 20, ground := Go.Ground.phase }, { on := 21, ground := Go.Ground.phase }, { on := 22, ground := Go.Ground.phase }, { on := 23, ground := Go.Ground.phase }, { on := 24, ground := Go.Ground.phase }, { on := 25, ground := Go.Ground.phase }, { on := 26, ground := Go.Ground.phase }], guard := none }) (v := ?_) rfl (by kernel_rfl) (by kernel_rfl) (by kernel_rfl) (fun _ _ _ h => h) (Or.inl ⟨by rfl, ?_⟩) S5.out ?_
  rotate_left
  · intro W hW; (go_simp; try with_reducible rfl)
  try simp only [Act.put, List.setIfInBounds_toArray, List.set_cons_zero, List.set_cons_succ]
  refine wpAnyH_done (by kernel_rfl) ?_ _
  refine NoPanic.normal ?_
  go_wp2_with fail
  go_ret
  exact ⟨rfl, S5.out.bel⟩
set_option maxRecDepth 100000 in
set_option maxHeartbeats 4000000 in
theorem kr_true (k : Ky) (ad : Option Addr) (l rs : List Int) (cap : Nat) (kk : Ky) (ee : Int) (w : World) (hk : k.Ok) (hl : BytesAt w (.slice ad l.length cap) l) (hn : l.length ≤ 100) (hr : k.right = true)
    (HKR : Hid (∀ gc R W, CurAt W gc R 0 l → Calls Try.prog 22 #[.pointer (some ⟨gc, 0, none⟩)] W (ReadsK W gc R kk ee rs))) (HKI : Hid (∀ gm R W, RefAt W gm R 0 l → Calls Try.prog 23 #[.pointer (some ⟨gm, 0, none⟩)] W (Ins W gm R kk ee rs))) (KL : Hid (kk.m.length = 8)) :
    Calls Try.prog 4 #[.agg k.cells.toArray, .slice ad l.length cap] w (Holds_ w) := by
  have k1 : ¬ (100 : Int) < (l.length : Int) := by omega
  have HK := Lib.hid hk
  have HV := Lib.hid hl
  have HN := Lib.hid hn
  have HR := Lib.hid hr
  have A0 := Lib.hid (blk_alloc w 27 k.cells)
  have B0 := Lib.hid (new_below w (.cells k.cells.toArray 27))
  clear hk hl hn hr
  go_enter Try.func4, Try.ntmps4
  go_wp2_with (refine wpList_load_ky rfl _ rfl w.heap.size 0 k rfl A0.out.range HK.out.ml ?_)
  refine (refKright_is k true _ HK.out HR).mono ?_
  rintro e w1 ⟨rfl, b1⟩
  have A1 := Lib.hid (A0.out.below b1)
  have B1 := Lib.hid (step_ B0.out b1)
  clear b1
  go_wp2_with fail
  refine (new_is _).mono ?_
  rintro e w3 ⟨rfl, hw3, b3⟩
  have W3 := Lib.hid hw3
  have A3 := Lib.hid (A1.out.below b3)
  have B3 := Lib.hid (step_ B1.out b3)
  have L3 := Lib.hid A1.out.lt
  have B13 := Lib.hid B1.out.size
  clear hw3 b3
  go_wp2_with (refine wpList_load_ky rfl _ rfl w.heap.size 0 k rfl A3.out.range HK.out.ml ?_)
  refine (kwrite_is w1.heap.size [] k _ W3.out HK.out (by simp)).mono ?_
  rintro e w4 ⟨⟨y4, rfl⟩, hw4, b4, k4⟩
  rw [List.nil_append] at hw4
  have W4 := Lib.hid (hw4.below (below_drew (Below.refl _ _)))
  have S4 := Lib.hid (WS.drew (WS.mk (B3.out.trans (b4.mono B13.out)) (k4 _ _ _ (by decide) (Nat.ne_of_lt L3.out) A3.out) : WS w k w4))
  have KE := Lib.hid (kenc_len HK.out)
  clear hw4 b4 k4
  go_wp2_with fail
  refine Code.wp_mono (Q := fun e a W => e = .normal ∧ WS w k W ∧ ∃ x19 x21, a = (⟨#[.agg k.cells.toArray, .slice ad l.length cap, .pointer (some ⟨w.heap.size, 0, none⟩), undef, .bool false, .pointer (some ⟨w1.heap.size, 0, none⟩), undef, undef, .slice ad l.length cap, .int .i64 (l.length : Int), .bool false, undef, .agg k.cells.toArray, .bool true, .pointer (some ⟨w1.heap.size, 0, none⟩), .pointer (some ⟨w1.heap.size, 0, none⟩), .agg k.cells.toArray, y4, .pointer (some ⟨w1.heap.size, 0, none⟩), x19, .agg k.cells.toArray, x21, .bool true, .bool false, undef, undef, undef, undef, undef, undef, undef, undef, undef, undef, undef, undef, undef, undef, undef, undef, undef, undef, undef, undef, undef, undef, undef, undef, undef, undef, undef, undef, undef, undef, undef, undef], []⟩ : Act)) ?_ ?_
  rotate_left
  ·
    refine wp_region_noPanic ?_
    refine wp_region_held_drew (S := WS w k) (by kernel_rfl) S4.out (fun _ => ?_)
    refine wpAnyH_take (i := 0) (oi := { dst := some 18, op := Go.Op.move (Go.Operand.tmp 5), type := 39, pos := _, after := #[], guard := none }) (v := ?_) rfl (by kernel_rfl) (by kernel_rfl) (by kernel_rfl) (fun _ _ _ h => h) (Or.inl ⟨by rfl, ?_⟩) S4.out ?_
    rotate_left
    · intro W hW; (go_simp; try with_reducible rfl)
    try simp only [Act.put, List.setIfInBounds_toArray, List.set_cons_zero, List.set_cons_succ]
    refine wpAnyH_take (i := 2) (oi := { dst := some 20, op := Go.Op.load 27 (Go.Operand.tmp 2), type := 27, pos := _, after := #[], guard := none }) (v := .agg k.cells.toArray) rfl (by kernel_rfl) (by kernel_rfl) (by kernel_rfl) (fun _ _ _ h => h) (yieldsIf_load_mid (by rfl) 27 (.tmp 2) rfl w.heap.size 0 rfl k.cells _ (fun W hW => hW.blk.range) Try.underlying27 rfl (size27 HK.out.ml)) S4.out ?_
    try simp only [Act.put, List.setIfInBounds_toArray, List.set_cons_zero, List.set_cons_succ]
    refine wpAnyH_ready (rs := [1]) (by kernel_rfl) (by simp) ?_
    refine AllReadyH.cons (o := { dst := some 19, op := Go.Op.call { callee := Go.Callee.value (Go.Operand.func 19), args := #[Go.Operand.tmp 18], argTypes := #[39] }, type := 38, pos := _, after := #[{ on := 0, ground := Go.Ground.data }], guard := none }) rfl (fun K hK => ?_) AllReadyH.nil
    go_simp
    refine (out_is w1.heap.size (kenc k) _ W4.out (by have := KE.out; omega)).mono ?_
    rintro e w5 ⟨v5, rfl, hv5, b5⟩
    have S5 := Lib.hid (S4.out.below b5)
    have V5 := Lib.hid hv5
    clear hv5 b5
    go_wp2_with fail
    refine hK.out _ _ ?_ (fun _ => ?_)
    · exact S5.out
    clear hK K
    try simp only [Act.put, List.setIfInBounds_toArray, List.set_cons_zero, List.set_cons_succ]
    refine wpAnyH_ready (rs := [3]) (by kernel_rfl) (by simp) ?_
    refine AllReadyH.cons (o := { dst := some 21, op := Go.Op.call { callee := Go.Callee.value (Go.Operand.func 20), args := #[Go.Operand.tmp 20], argTypes := #[27] }, type := 38, pos := _, after := #[{ on := 2, ground := Go.Ground.data }, { on := 1, ground := Go.Ground.chain }], guard := none }) rfl (fun K hK => ?_) AllReadyH.nil
    go_simp
    refine (refOut_is k _ HK.out).mono ?_
    rintro e w6 ⟨v6, rfl, hv6, b6⟩
    have S6 := Lib.hid (S5.out.below b6)
    have V56 := Lib.hid (V5.out.below b6)
    have V6 := Lib.hid hv6
    clear hv6 b6
    go_wp2_with fail
    refine hK.out _ _ ?_ (fun _ => ?_)
    · exact S6.out
    clear hK K
    try simp only [Act.put, List.setIfInBounds_toArray, List.set_cons_zero, List.set_cons_succ]
    refine wpAnyH_ready (rs := [4]) (by kernel_rfl) (by simp) ?_
    refine AllReadyH.cons (o := { dst := some 22, op := Go.Op.call { callee := Go.Callee.value (Go.Operand.func 18), args := #[Go.Operand.tmp 19, Go.Operand.tmp 21], argTypes := #[38, 38] }, type := 4, pos := _, after := #[{ on := 1, ground := Go.Ground.data }, { on := 3, ground := Go.Ground.data }, { on := 3, ground := Go.Ground.chain }], guard := none }) rfl (fun K hK => ?_) AllReadyH.nil
    go_simp
    refine (same_any v5 v6 (kenc k) _ (by have := KE.out; omega) V56.out V6.out).mono ?_
    rintro e w7 ⟨rfl, b7⟩
    have S7 := Lib.hid (S6.out.below b7)
    clear b7
    go_wp2_with fail
    refine hK.out _ _ ?_ (fun _ => ?_)
    · exact S7.out
    clear hK K
    try simp only [Act.put, List.setIfInBounds_toArray, List.set_cons_zero, List.set_cons_succ]
    refine wpAnyH_take (i := 5) (oi := { dst := some 23, op := Go.Op.unOp Go.UnOp.not 4 (Go.Operand.tmp 22), type := 4, pos := _, after := #[{ on := 4, ground := Go.Ground.data }], guard := none }) (v := ?_) rfl (by kernel_rfl) (by kernel_rfl) (by kernel_rfl) (fun _ _ _ h => h) (Or.inl ⟨by rfl, ?_⟩) S7.out ?_
    rotate_left
    · intro W hW; (go_simp; try with_reducible rfl)
    try simp only [Act.put, List.setIfInBounds_toArray, List.set_cons_zero, List.set_cons_succ]
    refine wpAnyH_done (by kernel_rfl) ?_ _
    exact ⟨rfl, S7.out, v5, v6, rfl⟩
  rintro e a w7 ⟨rfl, hS, x19, x21, rfl⟩
  have B7 := Lib.hid hS.bel
  clear hS
  go_wp2_with fail
  refine (from_is _ l _ (HV.out.below B7.out) (by have := HN.out; omega)).mono ?_
  rintro e w8 ⟨gc, R, rfl, hgc, hc8, b8⟩
  have B8 := Lib.hid (step_ B7.out b8)
  have F8 := Lib.hid (hc8.far (Nat.le_refl _))
  have C8 := Lib.hid (hc8.alloc (.cells #[.slice ad l.length cap, .int .i64 0] 49))
  obtain ⟨Rm, hRm, hRml⟩ := HV.out.in_
  have M8 := Lib.hid (ref_new (hRm.below B8.out) (fun r hr => Nat.lt_of_lt_of_le (hRml r hr) B8.out.size) (by have := HN.out; omega))
  have RG := Lib.hid (show Rm ≠ some gc from fun e => by have := hRml gc e; have := B7.out.size; omega)
  have GW := Lib.hid (show w.heap.size ≤ gc from Nat.le_trans B7.out.size hgc)
  have GM := Lib.hid B8.out.size
  have S8 := Lib.hid (step_ B8.out (new_below w8 (.cells #[.slice ad l.length cap, .int .i64 0] 49)))
  clear hc8 b8 hgc hRm hRml
  go_wp2_with fail
  have S1 := Lib.hid (below_drew S8.out)
  have C1 := Lib.hid (C8.out.below (below_drew (Below.refl _ _)))
  have M1 := Lib.hid (M8.out.below (below_drew (Below.refl _ _)))
  refine wp_region_noPanic ?_
  refine wp_region_held_drew (S := fun W => Below w.heap.size w W) (by kernel_rfl) S1.out (fun _ => ?_)
  refine wpAnyH_take (i := 0) (oi := { dst := some 29, op := Go.Op.move (Go.Operand.tmp 6), type := 45, pos := _, after := #[], guard := none }) (v := ?_) rfl (by kernel_rfl) (by kernel_rfl) (by kernel_rfl) (fun _ _ _ h => h) (Or.inl ⟨by rfl, ?_⟩) S1.out ?_
  rotate_left
  · intro W hW; (go_simp; try with_reducible rfl)
  try simp only [Act.put, List.setIfInBounds_toArray, List.set_cons_zero, List.set_cons_succ]
  refine wpAnyH_take (i := 2) (oi := { dst := some 31, op := Go.Op.move (Go.Operand.tmp 7), type := 47, pos := _, after := #[], guard := none }) (v := ?_) rfl (by kernel_rfl) (by kernel_rfl) (by kernel_rfl) (fun _ _ _ h => h) (Or.inl ⟨by rfl, ?_⟩) S1.out ?_
  rotate_left
  · intro W hW; (go_simp; try with_reducible rfl)
  try simp only [Act.put, List.setIfInBounds_toArray, List.set_cons_zero, List.set_cons_succ]
  refine wpAnyH_ready (rs := [1]) (by kernel_rfl) (by simp) ?_
  refine AllReadyH.cons (o := { dst := some 30, op := Go.Op.call { callee := Go.Callee.value (Go.Operand.func 22), args := #[Go.Operand.tmp 29], argTypes := #[45] }, type := 27, pos := _, after := #[{ on := 0, ground := Go.Ground.data }], guard := none }) rfl (fun K hK => ?_) AllReadyH.nil
  go_simp
  refine (HKR.out gc R _ C1.out).mono ?_
  rintro e w12 ⟨rfl, hc12, ho12⟩
  have S2 := Lib.hid (S1.out.trans (ho12.below GW.out S1.out.size))
  have C2 := Lib.hid hc12
  have M2 := Lib.hid (M1.out.only ho12 (fun e => F8.out.1 e.symm) RG.out)
  clear hc12 ho12
  go_wp2_with fail
  refine hK.out _ _ ?_ (fun _ => ?_)
  · exact S2.out
  clear hK K
  try simp only [Act.put, List.setIfInBounds_toArray, List.set_cons_zero, List.set_cons_succ]
  refine wpAnyH_ready (rs := [3]) (by kernel_rfl) (by simp) ?_
  refine AllReadyH.cons (o := { dst := some 32, op := Go.Op.call { callee := Go.Callee.value (Go.Operand.func 23), args := #[Go.Operand.tmp 31], argTypes := #[47] }, type := 27, pos := _, after := #[{ on := 2, ground := Go.Ground.data }, { on := 1, ground := Go.Ground.chain }], guard := none }) rfl (fun K hK => ?_) AllReadyH.nil
  go_simp
  refine (HKI.out w8.heap.size Rm _ M2.out).mono ?_
  rintro e w13 ⟨rfl, hm13, ho13⟩
  have S3 := Lib.hid (S2.out.trans (ho13.below GM.out S2.out.size))
  have C3 := Lib.hid (C2.out.only ho13 F8.out.1 F8.out.2)
  obtain ⟨a13, cap13, hs13⟩ := rs_of S3.out hm13
  have S4 := Lib.hid hs13
  clear hm13 ho13 hs13
  go_wp2_with fail
  refine hK.out _ _ ?_ (fun _ => ?_)
  · exact S3.out
  clear hK K
  try simp only [Act.put, List.setIfInBounds_toArray, List.set_cons_zero, List.set_cons_succ]
  refine wpAnyH_narrow (S' := RS w w8.heap.size ee (.slice a13 rs.length cap13)) (fun W hW => hW.bel) _ _ _ _ ?_
  refine wpAnyH_take (i := 4) (oi := { dst := some 33, op := Go.Op.binOp Go.BinOp.eql 27 (Go.Operand.tmp 30) (Go.Operand.tmp 32) 27, type := 4, pos := _, after := #[{ on := 1, ground := Go.Ground.data }, { on := 3, ground := Go.Ground.data }], guard := none }) (v := .bool true) rfl (by kernel_rfl) (by kernel_rfl) (by kernel_rfl) (fun _ _ _ h => h) (Or.inl ⟨by rfl, fun W hW => (decide_eq_true (rfl : kk = kk)) ▸ exec_eq_ky _ _ _ rfl kk kk rfl rfl KL.out KL.out⟩) S4.out ?_
  try simp only [Act.put, List.setIfInBounds_toArray, List.set_cons_zero, List.set_cons_succ]
  refine wpAnyH_take (i := 5) (oi := { dst := some 34, op := Go.Op.move (Go.Operand.tmp 33), type := 4, pos := _, after := #[{ on := 4, ground := Go.Ground.data }, { on := 3, ground := Go.Ground.chain }], guard := none }) (v := ?_) rfl (by kernel_rfl) (by kernel_rfl) (by kernel_rfl) (fun _ _ _ h => h) (Or.inl ⟨by rfl, ?_⟩) S4.out ?_
  rotate_left
  · intro W hW; (go_simp; try with_reducible rfl)
  try simp only [Act.put, List.setIfInBounds_toArray, List.set_cons_zero, List.set_cons_succ]
  refine wpAnyH_take (i := 6) (oi := { dst := some 35, op := Go.Op.move (Go.Operand.tmp 6), type := 45, pos := _, after := #[{ on := 5, ground := Go.Ground.guard }], guard := some (5, true) }) (v := ?_) rfl (by kernel_rfl) (by kernel_rfl) (by kernel_rfl) (fun _ _ _ h => h) (Or.inl ⟨by rfl, ?_⟩) S4.out ?_
  rotate_left
  · intro W hW; (go_simp; try with_reducible rfl)
  try simp only [Act.put, List.setIfInBounds_toArray, List.set_cons_zero, List.set_cons_succ]
  refine wpAnyH_take (i := 8) (oi := { dst := some 37, op := Go.Op.move (Go.Operand.tmp 7), type := 47, pos := _, after := #[{ on := 5, ground := Go.Ground.guard }], guard := some (5, true) }) (v := ?_) rfl (by kernel_rfl) (by kernel_rfl) (by kernel_rfl) (fun _ _ _ h => h) (Or.inl ⟨by rfl, ?_⟩) S4.out ?_
  rotate_left
  · intro W hW; (go_simp; try with_reducible rfl)
  try simp only [Act.put, List.setIfInBounds_toArray, List.set_cons_zero, List.set_cons_succ]
  refine wpAnyH_take (i := 9) (oi := { dst := some 38, op := Go.Op.nilCheck (Go.Operand.tmp 37), type := 0, pos := _, after := #[{ on := 8, ground := Go.Ground.data }, { on := 5, ground := Go.Ground.guard }], guard := some (5, true) }) (v := ?_) rfl (by kernel_rfl) (by kernel_rfl) (by kernel_rfl) (fun _ _ _ h => h) (Or.inl ⟨by rfl, ?_⟩) S4.out ?_
  rotate_left
  · intro W hW; (go_simp; try with_reducible rfl)
  try simp only [Act.put, List.setIfInBounds_toArray, List.set_cons_zero, List.set_cons_succ]
  refine wpAnyH_take (i := 10) (oi := { dst := some 39, op := Go.Op.fieldAddr 49 (Go.Operand.tmp 38) 1, type := 0, pos := _, after := #[{ on := 9, ground := Go.Ground.data }, { on := 5, ground := Go.Ground.guard }], guard := some (5, true) }) (v := ?_) rfl (by kernel_rfl) (by kernel_rfl) (by kernel_rfl) (fun _ _ _ h => h) (Or.inl ⟨by rfl, ?_⟩) S4.out ?_
  rotate_left
  · intro W hW; (go_simp; try with_reducible rfl)
  try simp only [Act.put, List.setIfInBounds_toArray, List.set_cons_zero, List.set_cons_succ]
  refine wpAnyH_take (i := 11) (oi := { dst := some 40, op := Go.Op.load 30 (Go.Operand.tmp 39), type := 30, pos := _, after := #[{ on := 10, ground := Go.Ground.data }, { on := 5, ground := Go.Ground.guard }], guard := some (5, true) }) (v := ?_) rfl (by kernel_rfl) (by kernel_rfl) (by kernel_rfl) (fun _ _ _ h => h) (Or.inl ⟨by rfl, ?_⟩) S4.out ?_
  rotate_left
  · intro W hW; have c1 := hW.one; (go_simp; try with_reducible rfl)
  try simp only [Act.put, List.setIfInBounds_toArray, List.set_cons_zero, List.set_cons_succ]
  refine wpAnyH_ready (rs := [7]) (by kernel_rfl) (by simp) ?_
  refine AllReadyH.cons (o := { dst := some 36, op := Go.Op.call { callee := Go.Callee.value (Go.Operand.func 24), args := #[Go.Operand.tmp 35], argTypes := #[45] }, type := 30, pos := _, after := #[{ on := 6, ground := Go.Ground.data }, { on := 5, ground := Go.Ground.chain }, { on := 5, ground := Go.Ground.guard }], guard := some (5, true) }) rfl (fun K hK => ?_) AllReadyH.nil
  go_simp
  refine (curErrK_is gc R ee rs _ C3.out).mono ?_
  rintro e w14 ⟨rfl, rfl⟩
  go_wp2_with fail
  refine hK.out _ _ ?_ (fun _ => ?_)
  · exact S4.out
  clear hK K
  try simp only [Act.put, List.setIfInBounds_toArray, List.set_cons_zero, List.set_cons_succ]
  refine wpAnyH_take (i := 12) (oi := { dst := some 41, op := Go.Op.binOp Go.BinOp.eql 30 (Go.Operand.tmp 36) (Go.Operand.tmp 40) 30, type := 4, pos := _, after := #[{ on := 7, ground := Go.Ground.data }, { on := 11, ground := Go.Ground.data }, { on := 5, ground := Go.Ground.guard }], guard := some (5, true) }) (v := ?_) rfl (by kernel_rfl) (by kernel_rfl) (by kernel_rfl) (fun _ _ _ h => h) (Or.inl ⟨by rfl, ?_⟩) S4.out ?_
  rotate_left
  · intro W hW; (go_simp; try with_reducible rfl)
  try simp only [Act.put, List.setIfInBounds_toArray, List.set_cons_zero, List.set_cons_succ]
  refine wpAnyH_take (i := 13) (oi := { dst := some 42, op := Go.Op.pick (Go.Operand.tmp 34) (Go.Operand.tmp 41) (Go.Operand.const (Go.Value.bool false)), type := 4, pos := _, after := #[{ on := 5, ground := Go.Ground.data }, { on := 12, ground := Go.Ground.data }], guard := none }) (v := ?_) rfl (by kernel_rfl) (by kernel_rfl) (by kernel_rfl) (fun _ _ _ h => h) (Or.inl ⟨by rfl, ?_⟩) S4.out ?_
  rotate_left
  · intro W hW; (go_simp; try with_reducible rfl)
  try simp only [Act.put, List.setIfInBounds_toArray, List.set_cons_zero, List.set_cons_succ]
  refine wpAnyH_take (i := 14) (oi := { dst := some 43, op := Go.Op.move (Go.Operand.tmp 42), type := 4, pos := _, after := #[{ on := 13, ground := Go.Ground.data }, { on := 7, ground := Go.Ground.chain }], guard := none }) (v := ?_) rfl (by kernel_rfl) (by kernel_rfl) (by kernel_rfl) (fun _ _ _ h => h) (Or.inl ⟨by rfl, ?_⟩) S4.out ?_
  rotate_left
  · intro W hW; (go_simp; try with_reducible rfl)
  try simp only [Act.put, List.setIfInBounds_toArray, List.set_cons_zero, List.set_cons_succ]
  refine wpAnyH_take (i := 15) (oi := { dst := some 44, op := Go.Op.move (Go.Operand.tmp 6), type := 45, pos := _, after := #[{ on := 14, ground := Go.Ground.guard }], guard := some (14, true) }) (v := ?_) rfl (by kernel_rfl) (by kernel_rfl) (by kernel_rfl) (fun _ _ _ h => h) (Or.inl ⟨by rfl, ?_⟩) S4.out ?_
  rotate_left
  · intro W hW; (go_simp; try with_reducible rfl)
  try simp only [Act.put, List.setIfInBounds_toArray, List.set_cons_zero, List.set_cons_succ]
  refine wpAnyH_take (i := 17) (oi := { dst := some 46, op := Go.Op.move (Go.Operand.tmp 7), type := 47, pos := _, after := #[{ on := 14, ground := Go.Ground.guard }], guard := some (14, true) }) (v := ?_) rfl (by kernel_rfl) (by kernel_rfl) (by kernel_rfl) (fun _ _ _ h => h) (Or.inl ⟨by rfl, ?_⟩) S4.out ?_
  rotate_left
  · intro W hW; (go_simp; try with_reducible rfl)
  try simp only [Act.put, List.setIfInBounds_toArray, List.set_cons_zero, List.set_cons_succ]
  refine wpAnyH_take (i := 18) (oi := { dst := some 47, op := Go.Op.nilCheck (Go.Operand.tmp 46), type := 0, pos := _, after := #[{ on := 17, ground := Go.Ground.data }, { on := 14, ground := Go.Ground.guard }], guard := some (14, true) }) (v := ?_) rfl (by kernel_rfl) (by kernel_rfl) (by kernel_rfl) (fun _ _ _ h => h) (Or.inl ⟨by rfl, ?_⟩) S4.out ?_
  rotate_left
  · intro W hW; (go_simp; try with_reducible rfl)
  try simp only [Act.put, List.setIfInBounds_toArray, List.set_cons_zero, List.set_cons_succ]
  refine wpAnyH_take (i := 19) (oi := { dst := some 48, op := Go.Op.fieldAddr 49 (Go.Operand.tmp 47) 0, type := 0, pos := _, after := #[{ on := 18, ground := Go.Ground.data }, { on := 14, ground := Go.Ground.guard }], guard := some (14, true) }) (v := ?_) rfl (by kernel_rfl) (by kernel_rfl) (by kernel_rfl) (fun _ _ _ h => h) (Or.inl ⟨by rfl, ?_⟩) S4.out ?_
  rotate_left
  · intro W hW; (go_simp; try with_reducible rfl)
  try simp only [Act.put, List.setIfInBounds_toArray, List.set_cons_zero, List.set_cons_succ]
  refine wpAnyH_take (i := 20) (oi := { dst := some 49, op := Go.Op.load 38 (Go.Operand.tmp 48), type := 38, pos := _, after := #[{ on := 19, ground := Go.Ground.data }, { on := 14, ground := Go.Ground.guard }], guard := some (14, true) }) (v := ?_) rfl (by kernel_rfl) (by kernel_rfl) (by kernel_rfl) (fun _ _ _ h => h) (Or.inl ⟨by rfl, ?_⟩) S4.out ?_
  rotate_left
  · intro W hW; have c1 := hW.nul; (go_simp; try with_reducible rfl)
  try simp only [Act.put, List.setIfInBounds_toArray, List.set_cons_zero, List.set_cons_succ]
  refine wpAnyH_take (i := 21) (oi := { dst := some 50, op := Go.Op.call { callee := Go.Callee.builtin Go.Builtin.len, args := #[Go.Operand.tmp 49], argTypes := #[38] }, type := 3, pos := _, after := #[{ on := 20, ground := Go.Ground.data }, { on := 14, ground := Go.Ground.guard }], guard := some (14, true) }) (v := ?_) rfl (by kernel_rfl) (by kernel_rfl) (by kernel_rfl) (fun _ _ _ h => h) (Or.inl ⟨by rfl, ?_⟩) S4.out ?_
  rotate_left
  · intro W hW; (go_simp; try with_reducible rfl)
  try simp only [Act.put, List.setIfInBounds_toArray, List.set_cons_zero, List.set_cons_succ]
  refine wpAnyH_ready (rs := [16]) (by kernel_rfl) (by simp) ?_
  refine AllReadyH.cons (o := { dst := some 45, op := Go.Op.call { callee := Go.Callee.value (Go.Operand.func 25), args := #[Go.Operand.tmp 44], argTypes := #[45] }, type := 3, pos := _, after := #[{ on := 15, ground := Go.Ground.data }, { on := 14, ground := Go.Ground.chain }, { on := 14, ground := Go.Ground.guard }], guard := some (14, true) }) rfl (fun K hK => ?_) AllReadyH.nil
  go_simp
  refine (curLeftK_is gc R ee rs _ C3.out).mono ?_
  rintro e w14 ⟨rfl, rfl⟩
  go_wp2_with fail
  refine hK.out _ _ ?_ (fun _ => ?_)
  · exact S4.out
  clear hK K
  try simp only [Act.put, List.setIfInBounds_toArray, List.set_cons_zero, List.set_cons_succ]
  refine wpAnyH_take (i := 22) (oi := { dst := some 51, op := Go.Op.binOp Go.BinOp.eql 3 (Go.Operand.tmp 45) (Go.Operand.tmp 50) 3, type := 4, pos := _, after := #[{ on := 16, ground := Go.Ground.data }, { on := 21, ground := Go.Ground.data }, { on := 14, ground := Go.Ground.guard }], guard := some (14, true) }) (v := ?_) rfl (by kernel_rfl) (by kernel_rfl) (by kernel_rfl) (fun _ _ _ h => h) (Or.inl ⟨by rfl, ?_⟩) S4.out ?_
  rotate_left
  · intro W hW; (go_simp; try with_reducible rfl)
  try simp only [Act.put, List.setIfInBounds_toArray, List.set_cons_zero, List.set_cons_succ]
  refine wpAnyH_take (i := 23) (oi := { dst := some 52, op := Go.Op.pick (Go.Operand.tmp 43) (Go.Operand.tmp 51) (Go.Operand.const (Go.Value.bool false)), type := 4, pos := _, after := #[{ on := 14, ground := Go.Ground.data }, { on := 22, ground := Go.Ground.data }], guard := none }) (v := ?_) rfl (by kernel_rfl) (by kernel_rfl) (by kernel_rfl) (fun _ _ _ h => h) (Or.inl ⟨by rfl, ?_⟩) S4.out ?_
  rotate_left
  · intro W hW; (go_simp; try with_reducible rfl)
  try simp only [Act.put, List.setIfInBounds_toArray, List.set_cons_zero, List.set_cons_succ]
  refine wpAnyH_take (i := 24) (oi := { dst := some 53, op := Go.Op.move (Go.Operand.tmp 52), type := 4, pos := _, after := #[{ on := 23, ground := Go.Ground.data }, { on := 16, ground := Go.Ground.chain }], guard := none }) (v := ?_) rfl (by kernel_rfl) (by kernel_rfl) (by kernel_rfl) (fun _ _ _ h => h) (Or.inl ⟨by rfl, ?_⟩) S4.out ?_
  rotate_left
  · intro W hW; (go_simp; try with_reducible rfl)
  try simp only [Act.put, List.setIfInBounds_toArray, List.set_cons_zero, List.set_cons_succ]
  refine wpAnyH_ready (rs := [25]) (by kernel_rfl) (by simp) ?_
  refine AllReadyH.cons (o := { dst := some 54, op := Go.Op.call { callee := Go.Callee.value (Go.Operand.func 15), args := #[], argTypes := #[] }, type := 4, pos := _, after := #[{ on := 24, ground := Go.Ground.chain }, { on := 24, ground := Go.Ground.guard }], guard := some (24, true) }) rfl (fun K hK => ?_) AllReadyH.nil
  go_simp
  refine (alive_is _).mono ?_
  rintro e w14 ⟨rfl, b14⟩
  have S5 := Lib.hid (S4.out.below b14)
  clear b14
  go_wp2_with fail
  refine hK.out _ _ ?_ (fun _ => ?_)
  · exact S5.out
  clear hK K
  try simp only [Act.put, List.setIfInBounds_toArray, List.set_cons_zero, List.set_cons_succ]
  refine wpAnyH_take (i := 26) (oi := { dst := some 55, op := Go.Op.pick (Go.Operand.tmp 53) (Go.Operand.tmp 54) (Go.Operand.const (Go.Value.bool false)), type := 4, pos := _, after := #[{ on := 24, ground := Go.Ground.data }, { on := 25, ground := Go.Ground.data }], guard := none }) (v := ?_) rfl (by kernel_rfl) (by kernel_rfl) (by kernel_rfl) (fun _ _ _ h => h) (Or.inl ⟨by rfl, ?_⟩) S5.out ?_
  rotate_left
  · intro W hW; (go_simp; try with_reducible rfl)
  try simp only [Act.put, List.setIfInBounds_toArray, List.set_cons_zero, List.set_cons_succ]
  refine wpAnyH_take (i := 27) (oi := { dst := some 4, op := Go.Op.assign (Go.Operand.tmp 55), type := 4, pos := _, after := #[{ on := 26, ground := Go.Ground.data }, { on := 25, ground := Go.Ground.chain }, { on := 0, ground := Go.Ground.phase }, { on := 1, ground := Go.Ground.phase }, { on := 2, ground := Go.Ground.phase }, { on := 3, ground := Go.Ground.phase }, { on := 4, ground := Go.Ground.phase }, { on := 5, ground := Go.Ground.phase }, { on := 6, ground := Go.Ground.phase }, { on := 7, ground := Go.Ground.phase }, { on := 8, ground := Go.Ground.phase }, { on := 9, ground := Go.Ground.phase }, { on := 10, ground := Go.Ground.phase }, { on := 11, ground := Go.Ground.phase }, { on := 12, ground := Go.Ground.phase }, { on := 13, ground := Go.Ground.phase }, { on := 14, ground := Go.Ground.phase }, { on := 15, ground := Go.Ground.phase }, { on := 16, ground := Go.Ground.phase }, { on := 17, ground := Go.Ground.phase }, { on := 18, ground := Go.Ground.phase }, { on := 19, ground := Go.Ground.phase }, { on := 20, ground := Go.Ground.phase }, { on := 21, ground := Go.Ground.phase }, { on := 22, ground := Go.Ground.phase }, { on := 23, ground := Go.Ground.phase }, { on := 24, ground := Go.Ground.phase }, { on := 25, ground := Go.Ground.phase }, { on := 26, ground := Go.Ground.phase }], guard := none }) (v := ?_) rfl (by kernel_rfl) (by kernel_rfl) (by kernel_rfl) (fun _ _ _ h => h) (Or.inl ⟨by rfl, ?_⟩) S5.out ?_
  rotate_left
  · intro W hW; (go_simp; try with_reducible rfl)
  try simp only [Act.put, List.setIfInBounds_toArray, List.set_cons_zero, List.set_cons_succ]
  refine wpAnyH_done (by kernel_rfl) ?_ _
  refine NoPanic.normal ?_
  go_wp2_with fail
  go_ret
  exact ⟨rfl, S5.out.bel⟩
theorem keyReads_any (k : Ky) (v : Value) (l : List Int) (w : World) (hk : k.Ok) (hl : BytesAt w v l) : Calls Try.prog 4 #[.agg k.cells.toArray, v] w fun e w' => e = .returned (.bool true) ∧ Below w.heap.size w w' := by
  have hl' := hl
  obtain ⟨ad, cap, rfl, _⟩ := hl
  have hb := hl'.bytes
  by_cases h100 : 100 < l.length
  · exact kr_long k ad l.length cap w h100
  · have HKR : Hid (∀ gc R W, CurAt W gc R 0 l → Calls Try.prog 22 #[.pointer (some ⟨gc, 0, none⟩)] W (ReadsK W gc R ((rKey l).val kzero) (rKey l).err (rKey l).rst)) := Lib.hid fun gc R W hW => kread_is gc R l W hW
    have HKI : Hid (∀ gm R W, RefAt W gm R 0 l → Calls Try.prog 23 #[.pointer (some ⟨gm, 0, none⟩)] W (Ins W gm R ((rKey l).val kzero) (rKey l).err (rKey l).rst)) := Lib.hid fun gm R W hW => refIn_is gm R l W hW hb
    cases hr : k.right with
    | false => exact kr_false k ad l _ cap _ _ w hk hl' (by omega) hr HKR HKI (Lib.hid (rKey_len hb))
    | true => exact kr_true k ad l _ cap _ _ w hk hl' (by omega) hr HKR HKI (Lib.hid (rKey_len hb))
end Go.Proofs.Ytkjiehifnkkelaa
