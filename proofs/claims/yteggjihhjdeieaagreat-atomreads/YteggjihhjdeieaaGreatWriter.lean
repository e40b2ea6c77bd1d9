/- The contracts of New, add, Num, Byte, Name, Bytes and Out of a writer, of Clone at bytes, and of From. -/
import Derived.Test.YteggjihhjdeieaaGreatCursor
import Derived.Lib.ConvBytes
import Derived.Lib.AppendStr
namespace Go.Proofs.YteggjihhjdeieaaGreat
open Go.RowKit

theorem owns_only {w w' : World} {B x e n : Nat} {v : Value} {xs : List Value} (h : w.ownsRow B e 1 v n xs) (ho : Only x w w') (hx : x < B) : w'.ownsRow B e 1 v n xs := by
  refine ⟨h.1, ?_⟩
  rcases h.2 with hn | ⟨g, cap, cur, rfl, hb, hgg, rest⟩
  · exact .inl hn
  · refine .inr ⟨g, cap, cur, rfl, hb, ?_, rest⟩
    rw [ho.block g (Array.getElem?_eq_some_iff.1 hgg).1 (by omega)]
    exact hgg
theorem owns_shape {w : World} {B e n : Nat} {v : Value} {xs : List Value} (h : w.ownsRow B e 1 v n xs) : ∃ a cap, v = .slice a n cap := by
  rcases h.2 with ⟨hv, hn⟩ | ⟨g, cap, cur, hv, _⟩
  · exact ⟨none, 0, by rw [hv, hn]⟩
  · exact ⟨_, _, hv⟩
theorem owns_empty (w : World) (base : Nat) (hb : base ≤ w.heap.size) : (w.alloc (.cells #[] 5)).ownsRow base 5 1 (.slice (some ⟨w.heap.size, 0, none⟩) 0 0) ([] : List Int).length (([] : List Int).map (Value.int .u8)) :=
  World.ownsRow_lit w #[] 0 hb (by decide) rfl
theorem owns_none (w : World) (base : Nat) : w.ownsRow base 5 1 (.slice none 0 0) ([] : List Int).length (([] : List Int).map (Value.int .u8)) := ⟨rfl, .inl ⟨rfl, rfl⟩⟩
/-- A writer that has written the bytes l. -/
def WrAt (w : World) (g : Nat) (l : List Int) : Prop := ∃ v, Blk w g 102 [v] ∧ w.ownsRow (g + 1) 5 1 v l.length (l.map (Value.int .u8)) ∧ M.Bytes l
theorem WrAt.below {w w' : World} {g : Nat} {l : List Int} (h : WrAt w g l) (hb : Below w.heap.size w w') : WrAt w' g l := by
  obtain ⟨v, h1, h2, h3⟩ := h
  exact ⟨v, h1.below hb, owns_below h2 hb, h3⟩
theorem WrAt.lt {w : World} {g : Nat} {l : List Int} (h : WrAt w g l) : g < w.heap.size := by
  obtain ⟨v, h1, _⟩ := h
  exact h1.lt
theorem new_is (w : World) : Calls Tryz.prog 33 #[] w fun r w' => r = .returned (.pointer (some ⟨w.heap.size, 0, none⟩)) ∧ WrAt w' w.heap.size [] ∧ Below w.heap.size w w' := by
  go_enter Tryz.func33, Tryz.ntmps33
  go_wp2_with fail
  go_ret
  exact ⟨rfl, ⟨_, blk_alloc w 102 [.slice none 0 0], owns_none _ _, fun x hx => by cases hx⟩, new_below w _⟩
theorem add_is (g : Nat) (acc l : List Int) (u : Value) (w : World) (h : WrAt w g acc) (hu : BytesAt w u l) (hn : acc.length + l.length ≤ 30000) :
    Calls Tryz.prog 98 #[.pointer (some ⟨g, 0, none⟩), u] w fun r w' => (∃ x, r = .returned x) ∧ WrAt w' g (acc ++ l) ∧ Below g w w' := by
  have hgl := h.lt
  obtain ⟨v, hb, hown, hby⟩ := h
  have c0 := hb.cell (i := 0) rfl
  have HB := Lib.hid hb
  have HO := Lib.hid hown
  have HU := Lib.hid hu
  have HY := Lib.hid (hby.app hu.bytes)
  clear hb hown hu hby
  go_enter Tryz.func98, Tryz.ntmps98
  go_wp2_with ((at_builtin; refine app_bytes _ rfl (.tmp 10) (.tmp 11) rfl (g + 1) _ _ acc l rfl HO.out rfl HU.out hn hgl ?_; intro v1 w1 hown1 hbel1; have B1 := Lib.hid (show Blk w1 g 102 [v] from (hbel1.block g (Nat.lt_succ_self g)).trans HB.out); have HO1 := Lib.hid hown1; have HL1 := Lib.hid (hbel1.mono (Nat.le_succ g)); obtain ⟨a1, cap1, rfl⟩ := owns_shape hown1; have d0 := B1.out.cell (i := 0) rfl; have f0 := B1.out.frozen 0; clear hown1 hbel1))
  go_end0
  refine ⟨⟨_, rfl⟩, ⟨_, B1.out.set 0 _, ?_, HY.out⟩, HL1.out.trans ((Only.set g 0 w1 _).below (Nat.le_refl _) (Nat.le_of_lt B1.out.lt))⟩
  simpa using owns_only HO1.out (Only.set g 0 w1 _) (Nat.lt_succ_self g)
theorem add_none (u : Value) (w : World) : Calls Tryz.prog 98 #[.pointer none, u] w fun r w' => (∃ x, r = .returned x) ∧ w = w' := by
  go_enter Tryz.func98, Tryz.ntmps98
  go_wp2_with fail
  refine bodyPost_ret (results_none rfl _ _ _) rfl ?_
  exact ⟨⟨_, rfl⟩, rfl⟩
theorem below_step {g : Nat} {w a b : World} (h : Below w.heap.size w a) (hb : Below g a b) (hg : g ≤ w.heap.size) : Below g w b := (h.mono hg).trans hb
/-- What a write comes to. -/
def Wrote (w : World) (g : Nat) (l : List Int) (r : Ending) (w' : World) : Prop := (∃ x, r = .returned x) ∧ WrAt w' g l ∧ Below g w w'
theorem wnum_is (g : Nat) (acc : List Int) (x : Int) (w : World) (h : WrAt w g acc) (h0 : 0 ≤ x) (h1 : x < 18446744073709551616) (hn : acc.length + 10 ≤ 30000) :
    Calls Tryz.prog 66 #[.pointer (some ⟨g, 0, none⟩), .int .u64 x] w (Wrote w g (acc ++ M.var x)) := by
  have HW := Lib.hid h
  clear h
  have hl := M.var_ten x h0 h1
  go_enter Tryz.func66, Tryz.ntmps66
  go_wp2_with fail
  refine (var_is x _ h0 h1).mono ?_
  rintro r w1 ⟨v, rfl, hv, hb⟩
  have H1 := Lib.hid (HW.out.below hb)
  have V1 := Lib.hid hv
  have B1 := Lib.hid hb
  clear hv hb
  go_wp2_with fail
  refine (add_is g acc (M.var x) v _ H1.out V1.out (by omega)).mono ?_
  rintro r w2 ⟨⟨y, rfl⟩, hw2, hb2⟩
  have H2 := Lib.hid hw2
  have B2 := Lib.hid hb2
  clear hw2 hb2
  go_wp2_with fail
  go_end0
  exact ⟨⟨_, rfl⟩, H2.out, below_step B1.out B2.out (Nat.le_of_lt HW.out.lt)⟩
theorem wnum_none (x : Int) (w : World) (h0 : 0 ≤ x) (h1 : x < 18446744073709551616) :
    Calls Tryz.prog 66 #[.pointer none, .int .u64 x] w fun r w' => (∃ x, r = .returned x) ∧ Below w.heap.size w w' := by
  go_enter Tryz.func66, Tryz.ntmps66
  go_wp2_with fail
  refine (var_is x _ h0 h1).mono ?_
  rintro r w1 ⟨v, rfl, hv, hb⟩
  have B1 := Lib.hid hb
  clear hv hb
  go_wp2_with fail
  refine (add_none v _).mono ?_
  rintro r w2 ⟨⟨y, rfl⟩, rfl⟩
  go_wp2_with fail
  go_end0
  exact ⟨⟨_, rfl⟩, B1.out⟩
theorem wbyte_is (g : Nat) (acc : List Int) (c : Int) (w : World) (h : WrAt w g acc) (h0 : 0 ≤ c) (h1 : c < 256) (hn : acc.length + 1 ≤ 30000) :
    Calls Tryz.prog 65 #[.pointer (some ⟨g, 0, none⟩), .int .u8 c] w (Wrote w g (acc ++ [c])) := by
  have HL := Lib.hid h.lt
  have HW := Lib.hid (h.below (new_below w (.cells #[.int .u8 c] 5)))
  have V1 := Lib.hid (bytes_one w c h0 h1)
  clear h
  go_enter Tryz.func65, Tryz.ntmps65
  go_wp2_with fail
  refine (add_is g acc [c] _ _ HW.out V1.out (by simpa using hn)).mono ?_
  rintro r w2 ⟨⟨y, rfl⟩, hw2, hb2⟩
  have H2 := Lib.hid hw2
  have B2 := Lib.hid hb2
  clear hw2 hb2
  go_wp2_with fail
  go_end0
  exact ⟨⟨_, rfl⟩, H2.out, below_step (new_below w _) B2.out (Nat.le_of_lt HL.out)⟩
theorem wbyte_none (c : Int) (w : World) : Calls Tryz.prog 65 #[.pointer none, .int .u8 c] w fun r w' => (∃ x, r = .returned x) ∧ Below w.heap.size w w' := by
  go_enter Tryz.func65, Tryz.ntmps65
  go_wp2_with fail
  refine (add_none _ _).mono ?_
  rintro r w2 ⟨⟨y, rfl⟩, rfl⟩
  go_wp2_with fail
  go_end0
  exact ⟨⟨_, rfl⟩, new_below w _⟩
end Go.Proofs.YteggjihhjdeieaaGreat
