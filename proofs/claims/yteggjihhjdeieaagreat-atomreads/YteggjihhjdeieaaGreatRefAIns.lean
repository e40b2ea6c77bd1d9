/- The contract of In of the reference. -/
import Derived.Test.YteggjihhjdeieaaGreatRefAIn
namespace Go.Proofs.YteggjihhjdeieaaGreat
open Go.RowKit

theorem rVal_1 (l : List Int) : rVal 1 l = (match M.rByte l with | .bad e => .bad e | .got c r => if c = 1 ∨ c = 2 then .got ⟨c, M.zero8⟩ r else .bad 3) := by unfold rVal; rw [if_pos rfl]; rfl
theorem rVal_2 (s : Int) (h1 : s ≠ 1) (h4 : s ≠ 4) (l : List Int) : rVal s l = (match M.rNum 4294967295 l with | .bad e => .bad e | .got x r => if x = 0 then .bad 3 else .got ⟨x, M.zero8⟩ r) := by unfold rVal; rw [if_neg h1, if_neg h4]; rfl
theorem rVal_4 (l : List Int) : rVal 4 l = (match M.rNum 1099511627775 l with | .bad e => .bad e | .got x r => if 16 ≤ x % 256 then .bad 2 else if x / 256 = 0 then .bad 3 else match M.rName r with | .bad e => .bad e | .got m r' => .got ⟨x, m⟩ r') := by unfold rVal; rw [if_neg (by decide), if_pos rfl]; rfl
theorem refAIn_is (g : Nat) (R : Option Nat) (l : List Int) (w : World) (h : RefAt w g R 0 l) (hb : M.Bytes l) :
    Calls Tryz.prog 13 #[.pointer (some ⟨g, 0, none⟩)] w (InsA w g R ((rAtom l).val azero) (rAtom l).err (rAtom l).rst) := by
  have hk := fun W (hW : RefAt W g R 0 l) => refIn_is g R l W hW hb
  rcases rKey_fine hb with ⟨e, hq, he⟩ | ⟨k, r, hq, ko, kb⟩
  · rw [hq] at hk
    have ha : rAtom l = .bad e := by unfold rAtom; rw [hq]
    rw [ha]
    exact ia_key g R l [] e w h (Lib.hid hk) he
  · rw [hq] at hk
    have ha : ∀ q, rVal k.s r = q → rAtom l = match q with | .bad e => .bad e | .got v r' => .got ⟨k, v⟩ r' := fun q h => by unfold rAtom; rw [hq]; simp only; rw [h]; cases q <;> rfl
    rcases rKey_sort hq with hs | hs | hs | hs
    · have H1 := rdByte g R 0 r (M.rByte r) rfl
      have hv : rVal k.s r = _ := (congrArg (fun s => rVal s r) hs).trans (rVal_1 r)
      cases h1 : M.rByte r with
      | bad e =>
        rw [h1] at H1 hv
        rw [ha _ hv]
        exact ia_1z g R l r [] k 0 e w h (Lib.hid hk) (Lib.hid ko) (Lib.hid hs) (Lib.hid H1) (Lib.hid vzero_ok) (by decide) (rByte_bad h1)
      | got c r' =>
        rw [h1] at H1 hv
        obtain ⟨hc, _⟩ := rByte_fine kb h1
        have vo : (⟨c, M.zero8⟩ : Vl).Ok := ⟨rfl, zero8_bytes, hc.1, by show c < _; omega⟩
        have cw : IntKind.u64.wrap c = c := by rw [IntKind.wrap_u64]; omega
        simp only at hv
        by_cases e1 : c = 1
        · rw [if_pos (.inl e1)] at hv
          rw [ha _ hv]
          exact ia_1a g R l r r' k c w h (Lib.hid hk) (Lib.hid ko) (Lib.hid hs) (Lib.hid H1) (Lib.hid vo) cw (by rw [e1]; rfl)
        · by_cases e2 : c = 2
          · rw [if_pos (.inr e2)] at hv
            rw [ha _ hv]
            exact ia_1b g R l r r' k c w h (Lib.hid hk) (Lib.hid ko) (Lib.hid hs) (Lib.hid H1) (Lib.hid vo) cw (bne_iff_ne.2 e1) (by rw [e2]; rfl)
          · rw [if_neg (fun q => by rcases q with q | q; exact e1 q; exact e2 q)] at hv
            rw [ha _ hv]
            exact ia_1f g R l r r' k c w h (Lib.hid hk) (Lib.hid ko) (Lib.hid hs) (Lib.hid H1) (Lib.hid vo) cw (bne_iff_ne.2 e1) (bne_iff_ne.2 e2)
    · have H1 := rdNum g R 0 4294967295 r (M.rNum 4294967295 r) (by decide) (by decide) rfl
      have hv := rVal_2 k.s (by omega) (by omega) r
      cases h1 : M.rNum 4294967295 r with
      | bad e =>
        rw [h1] at H1 hv
        rw [ha _ hv]
        exact ia_2z g R l r [] k 0 e w h (Lib.hid hk) (Lib.hid ko) (Lib.hid hs) (Lib.hid H1) (Lib.hid vzero_ok) (rNum_err h1)
      | got x r' =>
        rw [h1] at H1 hv
        obtain ⟨hx, _⟩ := rNum_fine kb (by decide) h1
        have vo : (⟨x, M.zero8⟩ : Vl).Ok := ⟨rfl, zero8_bytes, hx.1, by show x < _; omega⟩
        simp only at hv
        by_cases e1 : x = 0
        · rw [if_pos e1] at hv
          rw [ha _ hv]
          exact ia_2f g R l r r' k x w h (Lib.hid hk) (Lib.hid ko) (Lib.hid hs) (Lib.hid H1) (Lib.hid vo) (by rw [e1]; rfl)
        · rw [if_neg e1] at hv
          rw [ha _ hv]
          exact ia_2o g R l r r' k x w h (Lib.hid hk) (Lib.hid ko) (Lib.hid hs) (Lib.hid H1) (Lib.hid vo) (beq_eq_false_iff_ne.2 e1)
    · have H1 := rdNum g R 0 4294967295 r (M.rNum 4294967295 r) (by decide) (by decide) rfl
      have hv := rVal_2 k.s (by omega) (by omega) r
      cases h1 : M.rNum 4294967295 r with
      | bad e =>
        rw [h1] at H1 hv
        rw [ha _ hv]
        exact ia_3z g R l r [] k 0 e w h (Lib.hid hk) (Lib.hid ko) (Lib.hid hs) (Lib.hid H1) (Lib.hid vzero_ok) (rNum_err h1)
      | got x r' =>
        rw [h1] at H1 hv
        obtain ⟨hx, _⟩ := rNum_fine kb (by decide) h1
        have vo : (⟨x, M.zero8⟩ : Vl).Ok := ⟨rfl, zero8_bytes, hx.1, by show x < _; omega⟩
        simp only at hv
        by_cases e1 : x = 0
        · rw [if_pos e1] at hv
          rw [ha _ hv]
          exact ia_3f g R l r r' k x w h (Lib.hid hk) (Lib.hid ko) (Lib.hid hs) (Lib.hid H1) (Lib.hid vo) (by rw [e1]; rfl)
        · rw [if_neg e1] at hv
          rw [ha _ hv]
          exact ia_3o g R l r r' k x w h (Lib.hid hk) (Lib.hid ko) (Lib.hid hs) (Lib.hid H1) (Lib.hid vo) (beq_eq_false_iff_ne.2 e1)
    · have H1 := rdNum g R 0 1099511627775 r (M.rNum 1099511627775 r) (by decide) (by decide) rfl
      have hv : rVal k.s r = _ := (congrArg (fun s => rVal s r) hs).trans (rVal_4 r)
      cases h1 : M.rNum 1099511627775 r with
      | bad e =>
        rw [h1] at H1 hv
        rw [ha _ hv]
        have he := rNum_err h1
        have H2 := rdName g R e [] (.bad e) (M.gate_bad he _)
        exact ia_4z g R l r [] k 0 e [] M.zero8 e w h (Lib.hid hk) (Lib.hid ko) (Lib.hid hs) (Lib.hid H1) (Lib.hid vzero_ok) he (Lib.hid H2) (Lib.hid vzero_ok) he
      | got x r' =>
        rw [h1] at H1 hv
        obtain ⟨hx, xb⟩ := rNum_fine kb (by decide) h1
        have vo : (⟨x, M.zero8⟩ : Vl).Ok := ⟨rfl, zero8_bytes, hx.1, by show x < _; omega⟩
        simp only at hv
        by_cases e1 : 16 ≤ x % 256
        · rw [if_pos e1] at hv
          rw [ha _ hv]
          exact ia_4f g R l r r' k x w h (Lib.hid hk) (Lib.hid ko) (Lib.hid hs) (Lib.hid H1) (Lib.hid vo) (decide_eq_true e1)
        · rw [if_neg e1] at hv
          by_cases e2 : x / 256 = 0
          · rw [if_pos e2] at hv
            rw [ha _ hv]
            exact ia_4g g R l r r' k x w h (Lib.hid hk) (Lib.hid ko) (Lib.hid hs) (Lib.hid H1) (Lib.hid vo) (decide_eq_false e1) (by rw [e2]; rfl)
          · rw [if_neg e2] at hv
            have H2 := rdName g R 0 r' (M.rName r') rfl
            cases h2 : M.rName r' with
            | bad e =>
              rw [h2] at H2 hv
              rw [ha _ hv]
              exact ia_4n g R l r r' k x [] M.zero8 e w h (Lib.hid hk) (Lib.hid ko) (Lib.hid hs) (Lib.hid H1) (Lib.hid vo) (decide_eq_false e1) (beq_eq_false_iff_ne.2 e2) (Lib.hid H2) (Lib.hid vo) (rName_bad h2)
            | got m r'' =>
              rw [h2] at H2 hv
              rw [ha _ hv]
              obtain ⟨hm, _⟩ := rName_fine xb h2
              exact ia_4o g R l r r' k x r'' m w h (Lib.hid hk) (Lib.hid ko) (Lib.hid hs) (Lib.hid H1) (Lib.hid vo) (decide_eq_false e1) (beq_eq_false_iff_ne.2 e2) (Lib.hid H2) (Lib.hid ⟨hm.1, hm.2, hx.1, by show x < _; omega⟩)
end Go.Proofs.YteggjihhjdeieaaGreat
