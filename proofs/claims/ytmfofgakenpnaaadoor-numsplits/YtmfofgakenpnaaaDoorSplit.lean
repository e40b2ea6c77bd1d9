/- The contracts of Split: of package num, and of the reference. -/
import Derived.Test.YtmfofgakenpnaaaDoorJoin
namespace Go.Proofs.YtmfofgakenpnaaaDoor
open Go.RowKit

/-- What Split answers for the words ws from place k on, with the numbers so far. -/
def splitGo (f : ByteArray → Int × Int) : List ByteArray → Nat → List Int → List Int × Int × Int
  | [], _, acc => (acc, 0, 0)
  | p :: r, k, acc => if (f p).2 = 0 then splitGo f r (k + 1) (acc ++ [(f p).1]) else ([], (k : Int), (f p).2)
def splitOf (s : ByteArray) (lo hi : Int) : List Int × Int × Int := splitGo (fun p => parsed p.data.toList lo hi) (M.wordsOf s) 0 []
theorem split_ok (f : ByteArray → Int × Int) (ws : List ByteArray) (k : Nat) (acc : List Int) (n : Int) (h : k < ws.length) (hf : f ws[k] = (n, 0)) : splitGo f (ws.drop (k + 1)) (k + 1) (acc ++ [n]) = splitGo f (ws.drop k) k acc := by
  rw [List.drop_eq_getElem_cons h, splitGo, hf]; simp
theorem split_bad (f : ByteArray → Int × Int) (ws : List ByteArray) (k : Nat) (acc : List Int) (n c : Int) (h : k < ws.length) (hf : f ws[k] = (n, c)) (hc : c ≠ 0) : splitGo f (ws.drop k) k acc = ([], (k : Int), c) := by
  rw [List.drop_eq_getElem_cons h, splitGo, hf]; simp [hc]
theorem split_end (f : ByteArray → Int × Int) (ws : List ByteArray) (acc : List Int) : splitGo f (ws.drop ws.length) ws.length acc = (acc, 0, 0) := by
  rw [List.drop_length, splitGo]

theorem parsed_range (l : List UInt8) (lo hi : Int) : InI64 (parsed l lo hi).1 := by
  rw [parsed]
  generalize Lib.hasPrefix l [45] = neg
  generalize Lib.trimPrefix l [45] = d
  rw [parsedD]
  split
  · rename_i h
    split
    · rename_i h2
      have h3 : M.digitsOk d = true := by
        cases hd : M.digitsOk d
        · rw [hd] at h; simp at h
        · rfl
      have h0 := val_nonneg_of d (dok_all d h3)
      have hf : valFits neg (M.val d) = true := by
        cases hv : valFits neg (M.val d)
        · rw [hv] at h2; simp at h2
        · rfl
      dsimp only
      rw [valNum, hf]
      cases neg
      · simp [valFits] at hf
        simp only [if_true, InI64, Bool.false_eq_true, if_false]
        omega
      · simp [valFits] at hf
        simp only [if_true, InI64]
        omega
    · exact ⟨by simp, by simp⟩
  · exact ⟨by simp, by simp⟩
theorem cut_small (sep : Int → Bool) (keep : ByteArray → Bool → Bool) (s : ByteArray) (k : Nat) : ∀ p ∈ (M.cutSt sep keep s k).2, p.size ≤ s.size := by
  induction k with
  | zero => intro p hp; cases hp
  | succ k ih =>
    intro p hp
    rw [M.cutSt] at hp
    split at hp
    · dsimp only at hp
      split at hp
      · rcases List.mem_append.1 hp with h | h
        · exact ih p h
        · obtain rfl := List.mem_singleton.1 h
          rw [ByteArray.size_extract]; omega
      · exact ih p hp
    · exact ih p hp
theorem words_small (s : ByteArray) : ∀ p ∈ M.wordsOf s, p.size ≤ s.size := by
  intro p hp
  rw [M.wordsOf, M.cutAll] at hp
  split at hp
  · rcases List.mem_append.1 hp with h | h
    · exact cut_small _ _ _ _ p h
    · obtain rfl := List.mem_singleton.1 h
      rw [ByteArray.size_extract]; omega
  · exact cut_small _ _ _ _ p hp

theorem info3 : (Tryd.prog.info? 3).map (fun i => (i.zero, i.size, i.bytes)) = some (some (.int .i64 0), 1, 8) := by kernel_rfl
/-- append of one int to a row of ints of the call's own. -/
theorem app_int {ops : Array Oper} {rest : List Oper} {o : Oper} {a : Act} {Q : Exit → Act → World → Prop} (w : World) (hgd : o.guard = none) (s x : Operand)
    (ho : o.op = .call { callee := .builtin .append, args := #[s, x], argTypes := #[33, 33] }) (base : Nat) (v : Value) (acc : List Int) (p : Int)
    (hs : a.eval s = v) (hown : w.ownsRow base 3 1 v acc.length (acc.map (Value.int .i64))) (hx : a.eval x = .slice (some ⟨w.heap.size, 0, none⟩) 1 1) (hn : acc.length ≤ 1000000) (hbase : base ≤ w.heap.size)
    (h : ∀ v' w', w'.ownsRow base 3 1 v' (acc ++ [p]).length ((acc ++ [p]).map (Value.int .i64)) → Below base w w' → wpList Tryd.prog ops Q rest (a.put o.dst v') w') :
    wpList Tryd.prog ops Q (o :: rest) a (w.alloc (.cells #[.int .i64 p] 3)) := by
  obtain ⟨i0, hi, hz0, hz1, hz2⟩ := info_parts info3
  refine wpList_append_own _ hgd s x 33 ho base 3 i0 (.int .i64 0) 1 8 Tryd.underlying33 hi hz0 hz1 hz2 rfl (by decide) v _ _ hs (hown.alloc _) ⟨w.heap.size, 0, none⟩ 1 1 [.int .i64 p] hx rfl (cell_one_new _ _ _) ?_ ?_ ?_ ?_ ?_
  · intro u hu; simp at hu; subst hu; rfl
  · unfold maxLen; omega
  · omega
  · simp; omega
  · intro v' w' h1 h2 _
    refine h v' w' (by simpa using h1) ?_
    exact ((Below.refl base w).alloc hbase _).grown h2 (by simp; omega) (fun k hk => (hown.lt k hk).1)
theorem ints_of_owns {w : World} {B : Nat} {v : Value} {l : List Int} (h : w.ownsRow B 3 1 v l.length (l.map (Value.int .i64))) (hr : ∀ x ∈ l, InI64 x) : IntsAt w v l := by
  have h' := h
  obtain ⟨_, h2⟩ := h
  rcases h2 with ⟨hv, h0⟩ | ⟨g, cap, cur, hv, hg, hh, _⟩
  · exact ⟨none, 0, by rw [hv, h0], hr, fun hl => by omega⟩
  · subst hv
    refine ⟨_, cap, rfl, hr, fun _ => ⟨g, 0, rfl, (Array.getElem?_eq_some_iff.1 hh).1, fun i hi => ?_⟩⟩
    rw [Nat.zero_add, h'.cellAt i (by omega)]; simp [hi]

theorem ret_three {v : Value} {l : List Int} {a b : Int} {r : List Int × Int × Int} (h : (l, a, b) = r) : Ending.returned (.tuple #[v, .int .i64 a, .int .i64 b]) = .returned (.tuple #[v, .int .i64 r.2.1, .int .i64 r.2.2]) := by subst h; rfl
def GivesSplit (w : World) (r : List Int × Int × Int) (e : Ending) (w' : World) : Prop :=
  ∃ v, e = .returned (.tuple #[v, .int .i64 r.2.1, .int .i64 r.2.2]) ∧ IntsAt w' v r.1 ∧ Below w.heap.size w w'
theorem ints_nil (w : World) : IntsAt w (.slice none 0 0) [] := ⟨none, 0, rfl, (fun x hx => by cases hx), (fun h => by simp at h)⟩
/-- What holds at each round's head of Split. -/
def PR (f : ByteArray → Int × Int) (ws : List ByteArray) (w1 : World) (v i : Value) (wr : World) : Prop :=
  ∃ (k : Nat) (acc : List Int), k ≤ ws.length ∧ i = .int .i64 k ∧ acc.length = k ∧ Hid (splitGo f (ws.drop k) k acc = splitGo f ws 0 []) ∧ Hid (∀ x ∈ acc, InI64 x) ∧ wr.ownsRow w1.heap.size 3 1 v acc.length (acc.map (Value.int .i64)) ∧ Below w1.heap.size w1 wr

set_option maxRecDepth 100000 in
set_option maxHeartbeats 1000000 in
theorem split_any (s : ByteArray) (lo hi : Int) (w : World) (hs : s.size ≤ 10000) :
    Calls Tryd.prog 17 #[.string s, .int .i64 lo, .int .i64 hi] w (GivesSplit w (splitOf s lo hi)) := by
  have hwl := Lib.hid (words_len s)
  have hws := Lib.hid (words_small s)
  have hr0 := Lib.hid (show splitOf s lo hi = splitGo (fun p => parsed p.data.toList lo hi) (M.wordsOf s) 0 [] from rfl)
  obtain ⟨r, hr⟩ : ∃ r, splitOf s lo hi = r := ⟨_, rfl⟩
  rw [hr]
  rw [hr] at hr0
  clear hr
  go_enter Tryd.func17, Tryd.ntmps17
  go_wp2_with fail
  refine (words_any s _ (by omega)).mono ?_
  rintro e w1 ⟨v, rfl, hstr⟩
  generalize M.wordsOf s = ws at *
  have hwl2 : ws.length ≤ 10001 := by have := hwl.out; omega
  by_cases h0 : 0 < ws.length
  · obtain ⟨g, cap, rfl, hg, _, _, hcell0⟩ := strs_form hstr h0
    have hcell := Lib.hid hcell0
    have hbw := Lib.hid hstr.2
    clear hcell0 hstr
    go_wp2
    go_loopw [9, 17] (fun v i wr => PR (fun p => parsed p.data.toList lo hi) ws w1 v i wr) (fun _ i _ => ws.length - (intOf i).toNat)
    case atStart => exact ⟨0, [], Nat.zero_le _, rfl, rfl, Lib.hid rfl, Lib.hid (fun x hx => by cases hx), World.ownsRow_nil _ _ _ _, Below.refl _ _⟩
    case round =>
      obtain ⟨k, acc, hk, rfl, hacc, hgo, hrg, hown, hbel⟩ := hrel
      have hsz := hbel.size
      by_cases hlt : k < ws.length
      · have c1 : wr.cell? ⟨g, k, none⟩ = some (.string ws[k]) := (hbel.cell (p := ⟨g, k, none⟩) hg).trans (hcell.out k hlt)
        have hps : ws[k].size ≤ s.size := hws.out _ (List.getElem_mem _)
        have hpr := Lib.hid (parsed_range ws[k].data.toList lo hi)
        obtain ⟨⟨n, c⟩, hp0⟩ : ∃ q, parsed ws[k].data.toList lo hi = q := ⟨_, rfl⟩
        rw [hp0] at hpr
        have hp := Lib.hid hp0
        have hok := Lib.hid (fun (h : c = 0) => split_ok (fun p => parsed p.data.toList lo hi) ws k acc n hlt (by rw [hp0, h]))
        have hbad := Lib.hid (split_bad (fun p => parsed p.data.toList lo hi) ws k acc n c hlt hp0)
        clear hp0
        generalize ws[k] = q at *
        have HACC := Lib.hid hacc
        have hal : acc.length ≤ 10001 := by omega
        clear hacc
        by_cases hc0 : c = 0
        · subst hc0
          have hgo2 := Lib.hid ((hok.out rfl).trans hgo.out)
          go_wp2_with (first | (go_at_call 8; refine (parse_is q lo hi n 0 _ (by unfold maxLen; omega) hp).mono ?_; rintro e w' ⟨rfl, rfl⟩) | (at_builtin; refine app_int wr rfl (.tmp 33) (.tmp 35) rfl w1.heap.size _ acc _ rfl hown rfl (by omega) hsz ?_; intro v' w2 hown1 hbel1))
          go_roundw
          case rel =>
            refine ⟨k + 1, acc ++ [n], hlt, by go_num, by rw [List.length_append, HACC.out]; rfl, hgo2, Lib.hid ?_, hown1, hbel.trans hbel1⟩
            intro x hx
            rcases List.mem_append.1 hx with h | h
            · exact hrg.out x h
            · obtain rfl := List.mem_singleton.1 h
              exact hpr.out
          case measure => simp [intOf]; omega
        · have hne : (c != 0) = true := by simpa using hc0
          have hfin := Lib.hid ((hbad.out hc0).symm.trans (hgo.out.trans hr0.out.symm))
          clear hc0
          go_wp2_with (first | (go_at_call 8; refine (parse_is q lo hi n c _ (by unfold maxLen; omega) hp).mono ?_; rintro e w' ⟨rfl, rfl⟩))
          go_ret3
          exact ⟨_, ret_three hfin.out, by rw [← hfin.out]; exact ints_nil _, hbw.out.trans (hbel.mono hbw.out.size)⟩
      · obtain rfl : k = ws.length := by omega
        have hfin := Lib.hid ((split_end (fun p => parsed p.data.toList lo hi) ws acc).symm.trans (hgo.out.trans hr0.out.symm))
        go_wp2_with fail
        go_ret3
        exact ⟨_, ret_three hfin.out, by rw [← hfin.out]; exact ints_of_owns hown hrg.out, hbw.out.trans (hbel.mono hbw.out.size)⟩
  · obtain ⟨a, cap, rfl⟩ := strs_len hstr
    have hw0 : ws = [] := List.eq_nil_of_length_eq_zero (by omega)
    subst hw0
    have hbw := Lib.hid hstr.2
    clear hstr
    go_wp2
    refine wp_loop_rounds 1 ?_
    rw [rounds_succ]
    go_wp2_with fail
    go_ret3
    exact ⟨_, ret_three (show ([], 0, 0) = r by rw [hr0.out]; rfl), by rw [hr0.out]; exact ints_nil _, hbw.out⟩

set_option maxRecDepth 100000 in
set_option maxHeartbeats 1000000 in
theorem refSplit_any (s : ByteArray) (lo hi : Int) (w : World) (hs : s.size ≤ 1000) :
    Calls Tryd.prog 18 #[.string s, .int .i64 lo, .int .i64 hi] w (GivesSplit w (splitOf s lo hi)) := by
  have hwl := Lib.hid (words_len s)
  have hws := Lib.hid (words_small s)
  have hr0 := Lib.hid (show splitOf s lo hi = splitGo (fun p => parsed p.data.toList lo hi) (M.wordsOf s) 0 [] from rfl)
  obtain ⟨r, hr⟩ : ∃ r, splitOf s lo hi = r := ⟨_, rfl⟩
  rw [hr]
  rw [hr] at hr0
  clear hr
  go_enter Tryd.func18, Tryd.ntmps18
  go_wp2_with fail
  refine (refWords_any s _ (by omega)).mono ?_
  rintro e w1 ⟨v, rfl, hstr⟩
  generalize M.wordsOf s = ws at *
  have hwl2 : ws.length ≤ 10001 := by have := hwl.out; omega
  by_cases h0 : 0 < ws.length
  · obtain ⟨g, cap, rfl, hg, _, _, hcell0⟩ := strs_form hstr h0
    have hcell := Lib.hid hcell0
    have hbw := Lib.hid hstr.2
    clear hcell0 hstr
    go_wp2
    go_loopw [9, 11] (fun v i wr => PR (fun p => parsed p.data.toList lo hi) ws w1 v i wr) (fun _ i _ => ws.length - (intOf i).toNat)
    case atStart => exact ⟨0, [], Nat.zero_le _, rfl, rfl, Lib.hid rfl, Lib.hid (fun x hx => by cases hx), World.ownsRow_nil _ _ _ _, Below.refl _ _⟩
    case round =>
      obtain ⟨k, acc, hk, rfl, hacc, hgo, hrg, hown, hbel⟩ := hrel
      have hsz := hbel.size
      by_cases hlt : k < ws.length
      · have c1 : wr.cell? ⟨g, k, none⟩ = some (.string ws[k]) := (hbel.cell (p := ⟨g, k, none⟩) hg).trans (hcell.out k hlt)
        have hps : ws[k].size ≤ s.size := hws.out _ (List.getElem_mem _)
        have hpr := Lib.hid (parsed_range ws[k].data.toList lo hi)
        obtain ⟨⟨n, c⟩, hp0⟩ : ∃ q, parsed ws[k].data.toList lo hi = q := ⟨_, rfl⟩
        rw [hp0] at hpr
        have hp := Lib.hid hp0
        have hok := Lib.hid (fun (h : c = 0) => split_ok (fun p => parsed p.data.toList lo hi) ws k acc n hlt (by rw [hp0, h]))
        have hbad := Lib.hid (split_bad (fun p => parsed p.data.toList lo hi) ws k acc n c hlt hp0)
        clear hp0
        generalize ws[k] = q at *
        have HACC := Lib.hid hacc
        have hal : acc.length ≤ 10001 := by omega
        clear hacc
        by_cases hc0 : c = 0
        · subst hc0
          have hgo2 := Lib.hid ((hok.out rfl).trans hgo.out)
          go_wp2_with (first | (go_at_call 9; refine (refParse_is q lo hi n 0 _ (by omega) hp).mono ?_; rintro e w' ⟨rfl, rfl⟩) | (at_builtin; refine app_int wr rfl (.tmp 36) (.tmp 38) rfl w1.heap.size _ acc _ rfl hown rfl (by omega) hsz ?_; intro v' w2 hown1 hbel1))
          go_roundw
          case rel =>
            refine ⟨k + 1, acc ++ [n], hlt, by go_num, by rw [List.length_append, HACC.out]; rfl, hgo2, Lib.hid ?_, hown1, hbel.trans hbel1⟩
            intro x hx
            rcases List.mem_append.1 hx with h | h
            · exact hrg.out x h
            · obtain rfl := List.mem_singleton.1 h
              exact hpr.out
          case measure => simp [intOf]; omega
        · have hne : (c != 0) = true := by simpa using hc0
          have hfin := Lib.hid ((hbad.out hc0).symm.trans (hgo.out.trans hr0.out.symm))
          clear hc0
          go_wp2_with (first | (go_at_call 9; refine (refParse_is q lo hi n c _ (by omega) hp).mono ?_; rintro e w' ⟨rfl, rfl⟩))
          go_ret3
          exact ⟨_, ret_three hfin.out, by rw [← hfin.out]; exact ints_nil _, hbw.out.trans (hbel.mono hbw.out.size)⟩
      · obtain rfl : k = ws.length := by omega
        have hfin := Lib.hid ((split_end (fun p => parsed p.data.toList lo hi) ws acc).symm.trans (hgo.out.trans hr0.out.symm))
        go_wp2_with fail
        go_ret3
        exact ⟨_, ret_three hfin.out, by rw [← hfin.out]; exact ints_of_owns hown hrg.out, hbw.out.trans (hbel.mono hbw.out.size)⟩
  · obtain ⟨a, cap, rfl⟩ := strs_len hstr
    have hw0 : ws = [] := List.eq_nil_of_length_eq_zero (by omega)
    subst hw0
    have hbw := Lib.hid hstr.2
    clear hstr
    go_wp2
    refine wp_loop_rounds 1 ?_
    rw [rounds_succ]
    go_wp2_with fail
    go_ret3
    exact ⟨_, ret_three (show ([], 0, 0) = r by rw [hr0.out]; rfl), by rw [hr0.out]; exact ints_nil _, hbw.out⟩
end Go.Proofs.YtmfofgakenpnaaaDoor
