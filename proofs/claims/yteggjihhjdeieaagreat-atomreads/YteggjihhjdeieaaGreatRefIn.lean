/- The contract of In of the reference, and the walk of KeyReads. -/
import Derived.Test.YteggjihhjdeieaaGreatKIn
import Derived.Test.YteggjihhjdeieaaGreatKRead
import Derived.Test.YteggjihhjdeieaaGreatAtoms
namespace Go.Proofs.YteggjihhjdeieaaGreat
open Go.RowKit

theorem rdByte (g : Nat) (R : Option Nat) (e : Int) (l : List Int) (res : M.Got Int) (hr : M.gate e (M.rByte l) = res) : RdP g R (blank 1) e l (pByte (res.val 0)) res.err res.rst := fun W hW => by
  have h := refRead_is g R e (blank 1) l W hW ⟨rfl, zero8_bytes, by decide, by decide, by decide, by decide, by decide, bytes_nil W⟩
  have hg : M.gate e (M.rd (blank 1).d (blank 1).x (blank 1).n l) = res.map fun c => (⟨0, c, M.zero8, []⟩ : M.Val) := by
    rw [← hr, ← M.gate_map]; rfl
  rw [hg] at h
  refine h.mono ?_
  rintro r w' ⟨v, hv, _, hc, ho⟩
  refine ⟨v, ?_, ?_, ho⟩
  · rw [hv]; cases res <;> rfl
  · rw [M.Got.map_err, M.Got.map_rst] at hc; exact hc
theorem rdNum (g : Nat) (R : Option Nat) (e most : Int) (l : List Int) (res : M.Got Int) (h0 : 0 ≤ most) (h1 : most < 18446744073709551616) (hr : M.gate e (M.rNum most l) = res) : RdP g R (pNum most (.slice none 0 0)) e l (pNum (res.val 0)) res.err res.rst := fun W hW => by
  have h := refRead_is g R e (pNum most (.slice none 0 0)) l W hW ⟨rfl, zero8_bytes, h0, h1, by show (0 : Int) ≤ 0; decide, by show (0 : Int) < _; decide, by show (0 : Int) < _; decide, bytes_nil W⟩
  have hg : M.gate e (M.rd (pNum most (.slice none 0 0)).d (pNum most (.slice none 0 0)).x (pNum most (.slice none 0 0)).n l) = res.map fun x => (⟨x, 0, M.zero8, []⟩ : M.Val) := by
    rw [← hr, ← M.gate_map]; rfl
  rw [hg] at h
  refine h.mono ?_
  rintro r w' ⟨v, hv, _, hc, ho⟩
  refine ⟨v, ?_, ?_, ho⟩
  · rw [hv]; cases res <;> rfl
  · rw [M.Got.map_err, M.Got.map_rst] at hc; exact hc
theorem rdName (g : Nat) (R : Option Nat) (e : Int) (l : List Int) (res : M.Got (List Int)) (hr : M.gate e (M.rName l) = res) : RdP g R (blank 2) e l (pName (res.val M.zero8)) res.err res.rst := fun W hW => by
  have h := refRead_is g R e (blank 2) l W hW ⟨rfl, zero8_bytes, by decide, by decide, by decide, by decide, by decide, bytes_nil W⟩
  have hg : M.gate e (M.rd (blank 2).d (blank 2).x (blank 2).n l) = res.map fun m => (⟨0, 0, m, []⟩ : M.Val) := by
    rw [← hr, ← M.gate_map]; rfl
  rw [hg] at h
  refine h.mono ?_
  rintro r w' ⟨v, hv, _, hc, ho⟩
  refine ⟨v, ?_, ?_, ho⟩
  · rw [hv]; cases res <;> rfl
  · rw [M.Got.map_err, M.Got.map_rst] at hc; exact hc
/-- Where a check does not fail, it leaves what it found. -/
theorem fs_same {α : Type} {b : Bool} {x : Int} {res : M.Got α} (h : res.err = 0 → b = true) : fs b x (res.err, res.rst) = (res.err, res.rst) := by
  cases res with
  | bad e =>
    by_cases he : e = 0
    · have hb : b = true := h he
      rw [hb]; rfl
    · exact fs_bad he
  | got a r => have hb : b = true := h rfl; rw [hb]; rfl
theorem fin_to {l : List Int} {w w' : World} {g : Nat} {R : Option Nat} {p : Int × List Int} {k k' : Ky} {e : Int} {l' : List Int} {r : Ending} (hf : Fin l p k) (hp : p = (e, l')) (hk : e = 0 → k' = k) (hz : e ≠ 0 → k' = kzero) (h : Ins w g R k' e l' r w') : Ins w g R ((rKey l).val kzero) (rKey l).err (rKey l).rst r w' := by
  subst hp
  have he : e = (rKey l).err := hf.err
  have hl : l' = (rKey l).rst := hf.rst
  by_cases h0 : e = 0
  · have hv : k = (rKey l).val kzero := hf.val h0
    rw [← he, ← hl, ← hv, ← hk h0]; exact h
  · have hv : (rKey l).val kzero = kzero := by
      cases hq : rKey l with
      | bad e => rfl
      | got k r => rw [hq] at he; exact absurd he h0
    rw [← he, ← hl, hv, ← hz h0]; exact h
/-- What fails at a check. -/
theorem bad_to {l : List Int} {w w' : World} {g : Nat} {R : Option Nat} {e : Int} {r : Ending} (hk : rKey l = .bad e) (h : Ins w g R kzero e [] r w') : Ins w g R ((rKey l).val kzero) (rKey l).err (rKey l).rst r w' := by rw [hk]; exact h
theorem refIn_is (g : Nat) (R : Option Nat) (l : List Int) (w : World) (h : RefAt w g R 0 l) (hb : M.Bytes l) :
    Calls Tryz.prog 28 #[.pointer (some ⟨g, 0, none⟩)] w (Ins w g R ((rKey l).val kzero) (rKey l).err (rKey l).rst) := by
  have H1 := rdByte g R 0 l (s1 l) rfl
  by_cases hF1 : (s1 l).err = 0 ∧ sortB ((s1 l).val 0) = false
  · obtain ⟨z1, hs⟩ := hF1
    have hp : p1 l = (3, []) := by unfold p1; rw [z1, hs]; rfl
    have hk : rKey l = .bad 3 := by
      rcases first l with ⟨e, _, hp', hk, _⟩ | ⟨s, l1, _, _, _, _, hp'⟩
      · rw [hp] at hp'; injection hp' with hp' _; rw [hk, hp']
      · rw [hp] at hp'; injection hp' with hp' _; omega
    rw [z1] at H1
    by_cases a1 : (s1 l).val 0 < 1
    · exact (inFa g R l _ _ w h (Lib.hid H1) a1).mono fun _ _ hh => bad_to hk hh
    · have a2 : 4 < (s1 l).val 0 := by unfold sortB at hs; simp only [Bool.and_eq_false_iff, decide_eq_false_iff_not] at hs; omega
      exact (inFb g R l _ _ w h (Lib.hid H1) a1 a2).mono fun _ _ hh => bad_to hk hh
  have hp1 : p1 l = ((s1 l).err, (s1 l).rst) := fs_same fun h0 => by
    cases hq : sortB ((s1 l).val 0) with
    | true => rfl
    | false => exact absurd ⟨h0, hq⟩ hF1
  have H2 := rdNum g R (s1 l).err 65535 (s1 l).rst (s2 l) (by decide) (by decide) (by unfold s2; rw [hp1])
  have cr : 0 ≤ (s2 l).val 0 ∧ (s2 l).val 0 ≤ 65535 := gate_num (bytes_p1 hb) (by decide)
  have cw : IntKind.u16.wrap ((s2 l).val 0) = (s2 l).val 0 := by rw [IntKind.wrap_u16]; omega
  have H3 := rdName g R (s2 l).err (s2 l).rst (s3 l) rfl
  have ML := s3_len l
  -- the sort is one of the four, unless there is an error
  have hsort : (s1 l).err = 0 → ¬ (s1 l).val 0 < 1 ∧ ¬ 4 < (s1 l).val 0 := fun h0 => by
    cases hq : sortB ((s1 l).val 0) with
    | true => unfold sortB at hq; simp only [Bool.and_eq_true, decide_eq_true_eq] at hq; omega
    | false => exact absurd ⟨h0, hq⟩ hF1
  by_cases z1 : (s1 l).err = 0
  · obtain ⟨a1, a2⟩ := hsort z1
    rw [z1] at H1 H2
    by_cases h4 : (s1 l).val 0 = 4
    · by_cases z2 : (s2 l).err = 0
      · rw [z2] at H2
        exact (in4o g R l _ _ _ _ w h (Lib.hid H1) a1 a2 (Lib.hid H2) cw (Lib.hid h4)).mono fun _ _ hh => fin_to (fin4 l h4) (by rw [z2]) (fun _ => rfl) (fun h => absurd rfl h) hh
      · exact (in4b g R l _ _ _ _ _ w h (Lib.hid H1) a1 a2 z2 (Lib.hid H2) cw (Lib.hid h4)).mono fun _ _ hh => fin_to (fin4 l h4) rfl (fun h => absurd h z2) (fun _ => rfl) hh
    · by_cases hF3 : (s3 l).err = 0 ∧ ((s3 l).val M.zero8 == M.zero8) = true
      · obtain ⟨z3, hm⟩ := hF3
        have hp : p3 l = (3, []) := by unfold p3; rw [z3]; show fs (!((s3 l).val M.zero8 == M.zero8)) 3 _ = _; rw [hm]; rfl
        have hk : rKey l = .bad 3 := by
          rcases third l h4 with ⟨e, _, hp', hk⟩ | ⟨s, c, m, l1, l2, l3, _, _, _, _, _, _, _, _, _, hp'⟩
          · rw [hp] at hp'; injection hp' with hp' _; rw [hk, hp']
          · rw [hp] at hp'; injection hp' with hp' _; omega
        rw [z3] at H3
        exact (inF3 g R l _ _ _ _ _ _ _ w h (Lib.hid H1) a1 a2 (Lib.hid H2) cw h4 (Lib.hid H3) (Lib.hid ML) (Lib.hid hm)).mono fun _ _ hh => bad_to hk hh
      have hp3 : p3 l = ((s3 l).err, (s3 l).rst) := fs_same fun h0 => by
        show (!((s3 l).val M.zero8 == M.zero8)) = true
        cases hq : ((s3 l).val M.zero8 == M.zero8) with
        | false => rfl
        | true => exact absurd ⟨h0, hq⟩ hF3
      have H4 := rdByte g R (s3 l).err (s3 l).rst (s4 l) (by unfold s4; rw [hp3])
      by_cases hF4 : (s4 l).err = 0 ∧ 16 ≤ (s4 l).val 0
      · obtain ⟨z4, hr⟩ := hF4
        have hp : p4 l = (2, []) := by unfold p4; rw [z4, decide_eq_false (by omega)]; rfl
        have hk : rKey l = .bad 2 := by
          rcases fourth l h4 with ⟨e, _, hp', hk⟩ | ⟨s, c, m, r, l1, l2, l3, l4, _, _, _, _, _, _, _, _, _, _, _, _, hp'⟩
          · rw [hp] at hp'; injection hp' with hp' _; rw [hk, hp']
          · rw [hp] at hp'; injection hp' with hp' _; omega
        rw [z4] at H4
        have z3 : (s3 l).err = 0 := by
          cases hq : (s3 l).err == 0 with
          | true => simpa using hq
          | false =>
            have hne : (s3 l).err ≠ 0 := by simpa using hq
            have : s4 l = .bad (s3 l).err := by unfold s4; rw [hp3]; exact M.gate_bad hne _
            rw [this] at z4
            exact absurd z4 hne
        rw [z3] at H3 H4
        have MZ : ((s3 l).val M.zero8 == M.zero8) = false := by
          cases hq : ((s3 l).val M.zero8 == M.zero8) with
          | false => rfl
          | true => exact absurd ⟨z3, hq⟩ hF3
        exact (inF4 g R l _ _ _ _ _ _ _ _ _ w h (Lib.hid H1) a1 a2 (Lib.hid H2) cw h4 (Lib.hid H3) (Lib.hid ML) (Lib.hid MZ) (Lib.hid H4) hr).mono fun _ _ hh => bad_to hk hh
      have hp4 : p4 l = ((s4 l).err, (s4 l).rst) := fs_same fun h0 => by
        apply decide_eq_true
        by_cases h16 : (s4 l).val 0 < 16
        · exact h16
        · exact absurd ⟨h0, by omega⟩ hF4
      have H5 := rdNum g R (s4 l).err 4294967295 (s4 l).rst (s5 l) (by decide) (by decide) (by unfold s5; rw [hp4])
      have qr : 0 ≤ (s5 l).val 0 ∧ (s5 l).val 0 ≤ 4294967295 := gate_num (bytes_p4 hb) (by decide)
      have qw : IntKind.u32.wrap ((s5 l).val 0) = (s5 l).val 0 := by rw [IntKind.wrap_u32]; omega
      have up4 : (s3 l).err ≠ 0 → (s4 l).err ≠ 0 := fun hne => by
        have : s4 l = .bad (s3 l).err := by unfold s4; rw [hp3]; exact M.gate_bad hne _
        rw [this]; exact hne
      have up5 : (s4 l).err ≠ 0 → (s5 l).err ≠ 0 := fun hne => by
        have : s5 l = .bad (s4 l).err := by unfold s5; rw [hp4]; exact M.gate_bad hne _
        rw [this]; exact hne
      have MZ : (s3 l).err = 0 → ((s3 l).val M.zero8 == M.zero8) = false := fun z3 => by
        cases hq : ((s3 l).val M.zero8 == M.zero8) with
        | false => rfl
        | true => exact absurd ⟨z3, hq⟩ hF3
      have R16 : (s4 l).err = 0 → ¬ 16 ≤ (s4 l).val 0 := fun z4 hr => hF4 ⟨z4, hr⟩
      by_cases h1 : (s1 l).val 0 = 1
      · by_cases z3 : (s3 l).err = 0
        · have mz := MZ z3
          rw [z3] at H3 H4
          by_cases z4 : (s4 l).err = 0
          · have r16 := R16 z4
            rw [z4] at H4 H5
            by_cases z5 : (s5 l).err = 0
            · rw [z5] at H5
              by_cases q0 : (s5 l).val 0 = 0
              · have hp : p5 l = (3, []) := by unfold p5; rw [z5, q0]; rfl
                have hf := fin1 l h1 qr.1
                exact (inF5 g R l _ _ _ _ _ _ _ _ _ _ _ w h (Lib.hid H1) a1 a2 (Lib.hid H2) cw h4 (Lib.hid H3) (Lib.hid ML) (Lib.hid mz) (Lib.hid H4) r16 (Lib.hid h1) (Lib.hid H5) qw (Lib.hid q0)).mono fun _ _ hh => fin_to hf hp (fun h => absurd h (by decide)) (fun _ => rfl) hh
              · have hp : p5 l = (0, (s5 l).rst) := by unfold p5; rw [z5, decide_eq_true (by omega)]; rfl
                exact (in1o g R l _ _ _ _ _ _ _ _ _ _ _ w h (Lib.hid H1) a1 a2 (Lib.hid H2) cw h4 (Lib.hid H3) (Lib.hid ML) (Lib.hid mz) (Lib.hid H4) r16 (Lib.hid h1) (Lib.hid H5) qw q0).mono fun _ _ hh => fin_to (fin1 l h1 qr.1) hp (fun _ => rfl) (fun h => absurd rfl h) hh
            · have hp : p5 l = ((s5 l).err, (s5 l).rst) := fs_same fun h0 => absurd h0 z5
              exact (in1d g R l _ _ _ _ _ _ _ _ _ _ _ _ w h (Lib.hid H1) a1 a2 (Lib.hid H2) cw h4 (Lib.hid H3) (Lib.hid ML) (Lib.hid mz) (Lib.hid H4) r16 (Lib.hid h1) z5 (Lib.hid H5) qw).mono fun _ _ hh => fin_to (fin1 l h1 qr.1) hp (fun h => absurd h z5) (fun _ => rfl) hh
          · have z5 := up5 z4
            have hp : p5 l = ((s5 l).err, (s5 l).rst) := fs_same fun h0 => absurd h0 z5
            exact (in1c g R l _ _ _ _ _ _ _ _ _ _ _ _ _ w h (Lib.hid H1) a1 a2 (Lib.hid H2) cw h4 (Lib.hid H3) (Lib.hid ML) (Lib.hid mz) z4 (Lib.hid H4) (Lib.hid h1) z5 (Lib.hid H5) qw).mono fun _ _ hh => fin_to (fin1 l h1 qr.1) hp (fun h => absurd h z5) (fun _ => rfl) hh
        · have z4 := up4 z3
          have z5 := up5 z4
          have hp : p5 l = ((s5 l).err, (s5 l).rst) := fs_same fun h0 => absurd h0 z5
          exact (in1b g R l _ _ _ _ _ _ _ _ _ _ _ _ _ _ w h (Lib.hid H1) a1 a2 (Lib.hid H2) cw h4 z3 (Lib.hid H3) (Lib.hid ML) z4 (Lib.hid H4) (Lib.hid h1) z5 (Lib.hid H5) qw).mono fun _ _ hh => fin_to (fin1 l h1 qr.1) hp (fun h => absurd h z5) (fun _ => rfl) hh
      · have hf := fin2 l h4 h1
        by_cases z3 : (s3 l).err = 0
        · have mz := MZ z3
          rw [z3] at H3 H4
          by_cases z4 : (s4 l).err = 0
          · have r16 := R16 z4
            rw [z4] at H4
            exact (in2o g R l _ _ _ _ _ _ _ _ _ w h (Lib.hid H1) a1 a2 (Lib.hid H2) cw h4 (Lib.hid H3) (Lib.hid ML) (Lib.hid mz) (Lib.hid H4) r16 h1).mono fun _ _ hh => fin_to hf (by rw [hp4, z4]) (fun _ => rfl) (fun h => absurd rfl h) hh
          · exact (in2c g R l _ _ _ _ _ _ _ _ _ _ w h (Lib.hid H1) a1 a2 (Lib.hid H2) cw h4 (Lib.hid H3) (Lib.hid ML) (Lib.hid mz) z4 (Lib.hid H4) h1).mono fun _ _ hh => fin_to hf hp4 (fun h => absurd h z4) (fun _ => rfl) hh
        · have z4 := up4 z3
          exact (in2b g R l _ _ _ _ _ _ _ _ _ _ _ w h (Lib.hid H1) a1 a2 (Lib.hid H2) cw h4 z3 (Lib.hid H3) (Lib.hid ML) z4 (Lib.hid H4) h1).mono fun _ _ hh => fin_to hf hp4 (fun h => absurd h z4) (fun _ => rfl) hh
  · -- the sort could not be read
    have hsv : (s1 l).val 0 = 0 := by
      cases hq : s1 l with
      | bad e => rfl
      | got a r => rw [hq] at z1; exact absurd rfl z1
    have h4 : ¬ (s1 l).val 0 = 4 := by rw [hsv]; decide
    have h1 : ¬ (s1 l).val 0 = 1 := by rw [hsv]; decide
    have e2 : s2 l = .bad (s1 l).err := by unfold s2; rw [hp1]; exact M.gate_bad z1 _
    have e3 : s3 l = .bad (s1 l).err := by unfold s3; rw [e2]; exact M.gate_bad z1 _
    have hp3 : p3 l = ((s3 l).err, (s3 l).rst) := fs_same fun h0 => by rw [e3] at h0; exact absurd h0 z1
    have e4 : s4 l = .bad (s1 l).err := by unfold s4; rw [hp3, e3]; exact M.gate_bad z1 _
    have hp4 : p4 l = ((s4 l).err, (s4 l).rst) := fs_same fun h0 => by rw [e4] at h0; exact absurd h0 z1
    have z3 : ¬ (s3 l).err = 0 := by rw [e3]; exact z1
    have z4 : ¬ (s4 l).err = 0 := by rw [e4]; exact z1
    have H4 := rdByte g R (s3 l).err (s3 l).rst (s4 l) (by unfold s4; rw [hp3])
    exact (in2a g R l _ _ _ _ _ _ _ _ _ _ _ _ w h z1 (Lib.hid H1) (Lib.hid H2) cw h4 z3 (Lib.hid H3) (Lib.hid ML) z4 (Lib.hid H4) h1).mono fun _ _ hh => fin_to (fin2 l h4 h1) hp4 (fun h => absurd h z4) (fun _ => rfl) hh
theorem ref_new {w : World} {R : Option Nat} {v : Value} {l : List Int} (h : BytesIn R w v l) (hR : ∀ r, R = some r → r < w.heap.size) (hl : l.length ≤ 30000) : RefAt (w.alloc (.cells #[v, .int .i64 0] 44)) w.heap.size R 0 l :=
  ⟨v, ⟨blk_alloc w 44 [v, .int .i64 0], h.alloc _, fun e => Nat.lt_irrefl _ (hR _ e), fun r hr => by have := hR r hr; simp; omega⟩, fun h => absurd rfl h, hl⟩
theorem rKey_len {l : List Int} (hb : M.Bytes l) : ((rKey l).val kzero).m.length = 8 := by
  obtain ⟨k, e', l', hf, hm, _⟩ := readFields_is 0 none l hb
  have he : e' = (rKey l).err := hf.err
  by_cases h0 : e' = 0
  · rw [← hf.val h0]; exact hm
  · cases hq : rKey l with
    | bad e => rfl
    | got k r => rw [hq] at he; exact absurd he h0
end Go.Proofs.YteggjihhjdeieaaGreat
