/- The contracts of words of package mix and of the iterator that it returns. -/
import Derived.Test.YtmdolblcffnkcaaChunk
import Derived.Test.YtmdolblcffnkcaaSpells
namespace Go.Proofs.Ytmdolblcffnkcaa
open Go.RowKit Go.Shelf
attribute [local go_sem] Oper.semAt_some

/-- What lay in w0 lies in W as it lay. -/
def Agrees (w0 W : World) : Prop := w0.heap.size ≤ W.heap.size ∧ ∀ k, k < w0.heap.size → W.heap[k]? = w0.heap[k]?
theorem Agrees.of_below {w0 W : World} (h : Below w0.heap.size w0 W) : Agrees w0 W := ⟨h.size, h.block⟩
theorem Agrees.stays {w0 W V : World} {p : Nat → Prop} {c : Nat} (h : Agrees w0 W) (hp : ∀ k, k < w0.heap.size → p k) (hs : Stays p c W V) : Agrees w0 V :=
  ⟨Nat.le_trans h.1 hs.size, fun k hk => (hs.same k (Nat.lt_of_lt_of_le hk h.1) (.inl (hp k hk))).trans (h.2 k hk)⟩
theorem agrees_own {β : Type} {w0 : World} {B : Nat} (hB : w0.heap.size ≤ B) : OwnFrom (β := β) B (fun _ W => Agrees w0 W) := fun _ X _ row hs hg hr =>
  ⟨Nat.le_trans hs.1 hg.size, fun k hk => (hg.block k (Nat.lt_of_lt_of_le hk hs.1) (fun e => by have := (hr k e.symm).1; omega)).trans (hs.2 k hk)⟩
theorem BytesAt.agrees {w0 W : World} {v : Value} {l : List Int} (h : BytesAt w0 v l) (ha : Agrees w0 W) : BytesAt W v l := by
  obtain ⟨a, cap, hv, hcap, hr, hc⟩ := h
  refine ⟨a, cap, hv, hcap, hr, fun h0 => ?_⟩
  obtain ⟨g, off, hA, hg, hcell⟩ := hc h0
  exact ⟨g, off, hA, Nat.lt_of_lt_of_le hg ha.1, fun i hi => (World.cell?_of_block (ha.2 g hg)).trans (hcell i hi)⟩
theorem group_at {w : World} {g off len cap : Nat} {l : List Int} (h : BytesAt w (.slice (some ⟨g, off, none⟩) len cap) l) (i : Nat) (hi : i < M.count l.length) : BytesAt w (chunkV g off len i) (M.group l i) := by
  obtain ⟨a, cap', hv, hcap, hr, hc⟩ := h
  have hi2 : 8 * i < l.length := by unfold M.count at hi; omega
  obtain ⟨g', off', rfl, hg, hcell⟩ := hc (by omega)
  injection hv with e1 e2 e3
  injection e1 with e1
  injection e1 with e4 e5
  subst e4 e5 e2
  have hlen := M.group_len l i
  refine ⟨_, _, by rw [hlen], ⟨by rw [hlen]; omega, fun h => by cases h⟩, M.group_bytes hr i, fun _ => ⟨g, _, rfl, hg, fun j hj => ?_⟩⟩
  rw [hlen] at hj
  have h2 := hcell (8 * i + j) (by omega)
  rw [Nat.add_assoc, h2]
  simp [M.group]
theorem group_get {l : List Int} (hb : M.Bytes l) (i : Nat) (hi : i < M.count l.length) : getOf (M.group l i) = (((M.wordAt l i : Nat) : Int), 0) := by
  have hi2 : 8 * i < l.length := by unfold M.count at hi; omega
  rw [getOf_ok _ (by rw [M.group_len]; omega) (by rw [M.group_len]; omega), M.wordAt_int hb]
set_option maxRecDepth 100000 in
set_option maxHeartbeats 1000000 in
theorem chunk_none {α : Type} (Bs Bn c : Nat) (a : Option Addr) (p : Nat → Prop) (encs : α → Array Value) (w : World) (hBs : Boxed w Bs 26 (.slice a 0 c)) :
    SeqAll Try.prog 37 #[.pointer (some ⟨Bs, 0, none⟩), .pointer (some ⟨Bn, 0, none⟩)] encs p [] w := by
  intro l J W hW hJ hY h0
  have c0 := Boxed.cell (show Boxed W Bs 26 (.slice a 0 c) from (hW.block Bs hBs.lt).trans hBs)
  clear hY hJ
  refine (callsIn_wide (n := 10)).1 ?_
  refine callsIn_of_wp Try.func37 rfl trivial ?_ rfl
  simp only [Try.ntmps37, List.size_toArray, List.length_cons, List.length_nil, Nat.reduceAdd, Nat.reduceSub, Array.replicate_succ, Array.replicate_zero, List.push_toArray, List.append_toArray, List.nil_append, List.cons_append]
  gi_wp2
  gi_loopw [4] (fun i wr => i = .int .i64 0 ∧ wr = W) (fun _ _ => 0)
  case atStart => exact ⟨rfl, rfl⟩
  case round =>
    obtain ⟨rfl, rfl⟩ := hrel
    gi_wp2
    go_end0
    exact ⟨⟨_, rfl⟩, h0⟩
theorem words_is (a : Option Addr) (n c : Nat) (w : World) :
    Calls Try.prog 20 #[.slice a n c] w fun e w' => e = .returned (.func (.func 30) #[] #[.pointer (some ⟨w.heap.size, 0, none⟩)]) ∧ w' = w.alloc (.cells #[.slice a n c] 26) := by
  go_enter Try.func20, Try.ntmps20
  go_wp2_with fail
  go_ret
  exact ⟨rfl, rfl⟩
/-- The groups, as the iterator of slices.Chunk hands them over. -/
theorem chunk_any (Bs Bn : Nat) (v : Value) (l : List Int) (p : Nat → Prop) (w0 w : World) (hm : l.length ≤ 1000) (hb : BytesAt w0 v l) (hBs : Boxed w Bs 26 v) (hBn : Boxed w Bn 3 (.int .i64 8)) (pS : p Bs) (pN : p Bn) :
    ∃ g off, SeqAll Try.prog 37 #[.pointer (some ⟨Bs, 0, none⟩), .pointer (some ⟨Bn, 0, none⟩)] (fun i : Nat => #[chunkV g off l.length i]) p (List.range (M.count l.length)) w ∧
      ∀ i, i < M.count l.length → ∀ W, Agrees w0 W → BytesAt W (chunkV g off l.length i) (M.group l i) := by
  have hb2 := hb
  obtain ⟨a, cap, rfl, hcap, hr, hc⟩ := hb
  by_cases h0 : 0 < l.length
  · obtain ⟨g, off, rfl, hg, hcell⟩ := hc h0
    exact ⟨g, off, chunk_all Bs Bn g off l.length cap p w hm hcap.1 hBs hBn pS pN, fun i hi W hW => group_at (hb2.agrees hW) i hi⟩
  · have e : l.length = 0 := by omega
    rw [e] at hBs ⊢
    exact ⟨0, 0, chunk_none Bs Bn cap a p _ w hBs, fun i hi => absurd hi (by unfold M.count; omega)⟩
set_option maxRecDepth 100000 in
set_option maxHeartbeats 1000000 in
theorem words_all (Bb : Nat) (v : Value) (l : List Int) (p : Nat → Prop) (w0 w : World) (hm : l.length ≤ 1000) (hb : BytesAt w0 v l) (hBb : Boxed w Bb 26 v) (ha : Agrees w0 w) (pn : ∀ k, k < w0.heap.size → p k) :
    SeqAll Try.prog 30 #[.pointer (some ⟨Bb, 0, none⟩)] (fun x : Nat => #[.int .u64 x]) p (M.words l (M.count l.length)) w := by
  intro l1 J W hW hJ hY h0
  have hBb' : Boxed W Bb 26 v := (hW.block Bb hBb.lt).trans hBb
  have haW : Agrees w0 W := ⟨Nat.le_trans ha.1 hW.size, fun k hk => (hW.block k (Nat.lt_of_lt_of_le hk ha.1)).trans (ha.2 k hk)⟩
  have hbb := hb
  obtain ⟨a, cap, hv, _, hbytes, _⟩ := hbb
  subst hv
  refine (callsIn_wide (n := 10)).1 ?_
  refine callsIn_of_wp_marks Try.func30 rfl trivial ?_ rfl
  simp only [Try.ntmps30, List.size_toArray, List.length_cons, List.length_nil, Nat.reduceAdd, Nat.reduceSub, Array.replicate_succ, Array.replicate_zero, List.push_toArray, List.append_toArray, List.nil_append, List.cons_append]
  have c0 := (hBb'.alloc (.cells #[.func (.yield l1) #[] #[]] 55)).cell
  gi_wp2_with (refine ⟨trivial, ?_⟩; gi_at_call 31; refine (callsIn_wide.2 (chunk_is _ _ _ _)).mono ?_; rintro e w2 ⟨rfl, rfl⟩)
  clear c0
  obtain ⟨W0, hW0⟩ : ∃ W0, ((W.alloc (.cells #[.func (.yield l1) #[] #[]] 55)).alloc (.cells #[.slice a l.length cap] 26)).alloc (.cells #[.int .i64 8] 3) = W0 := ⟨_, rfl⟩
  have hY0 : Boxed W0 W.heap.size 55 (.func (.yield l1) #[] #[]) := by rw [← hW0]; exact ((Boxed.new W 55 _).alloc _).alloc _
  have hS0 : Boxed W0 (W.heap.size + 1) 26 (.slice a l.length cap) := by
    have h := (Boxed.new (W.alloc (.cells #[.func (.yield l1) #[] #[]] 55)) 26 (.slice a l.length cap)).alloc (.cells #[.int .i64 8] 3)
    rw [hW0, World.size_alloc] at h; exact h
  have hN0 : Boxed W0 (W.heap.size + 1 + 1) 3 (.int .i64 8) := by
    have h := Boxed.new ((W.alloc (.cells #[.func (.yield l1) #[] #[]] 55)).alloc (.cells #[.slice a l.length cap] 26)) 3 (.int .i64 8)
    rw [hW0, World.size_alloc, World.size_alloc] at h; exact h
  have hsz : W0.heap.size = W.heap.size + 3 := by rw [← hW0]; simp
  have hBW : Below W.heap.size W W0 := by rw [← hW0]; exact (((Below.refl _ W).alloc (Nat.le_refl _) _).alloc (by simp) _).alloc (by simp; omega) _
  have hJ0 : J [] W0 := by rw [← hW0]; exact hJ.alloc _ (hJ.alloc _ (hJ.alloc _ h0))
  have ha0 : Agrees w0 W0 := ⟨Nat.le_trans haW.1 hBW.size, fun k hk => (hBW.block k (Nat.lt_of_lt_of_le hk haW.1)).trans (haW.2 k hk)⟩
  rw [hW0]
  clear hW0
  have hle := haW.1
  obtain ⟨g, off, hseq, hgr⟩ := chunk_any (W.heap.size + 1) (W.heap.size + 1 + 1) _ l (fun k => (p k ∨ W.heap.size ≤ k) ∧ k < W0.heap.size) w0 W0 hm hb hS0 hN0 ⟨.inr (by omega), by omega⟩ ⟨.inr (by omega), by omega⟩
  refine range_all (gf := 37) (lb := #[.pointer (some ⟨W.heap.size + 1, 0, none⟩), .pointer (some ⟨W.heap.size + 1 + 1, 0, none⟩)]) rfl (enters_of Try.func37 (by kernel_rfl) rfl)
    hseq (fun k hk => hk.2) (fun _ => rfl)
    (fun pre V => J (pre.map (M.wordAt l)) V ∧ (Boxed V W.heap.size 55 (.func (.yield l1) #[] #[]) ∧ Agrees w0 V))
    (OwnFrom.and (fun s X Y row hs hg hr => own_up hJ (show W.heap.size ≤ W0.heap.size by omega) _ X Y row hs hg hr) (OwnFrom.and (Own.from (boxed_own _ _ _) _) (agrees_own (by omega))))
    ⟨hJ0, hY0, ha0⟩
    (fun pre i a' V => (J (pre.map (M.wordAt l)) V ∧ (Boxed V W.heap.size 55 (.func (.yield l1) #[] #[]) ∧ Agrees w0 V)) ∧
      a' = { tmps := #[.func (.yield l1) #[] #[], .pointer (some ⟨Bb, 0, none⟩), .pointer (some ⟨W.heap.size, 0, none⟩), chunkV g off l.length i, undef, undef, .slice a l.length cap, .func (.func 37) #[] #[.pointer (some ⟨W.heap.size + 1, 0, none⟩), .pointer (some ⟨W.heap.size + 1 + 1, 0, none⟩)], chunkV g off l.length i, undef, undef, undef, undef, undef, undef, undef, undef, undef], defers := [] })
    ?hAx ?assign ?body ?done
  case hAx =>
    intro pre i a' _ X Y row ⟨⟨h1, h2, h3⟩, h4⟩ hg hr
    exact ⟨⟨own_up hJ (show W.heap.size ≤ W0.heap.size by omega) _ X Y row h1 hg hr, Own.from (boxed_own W.heap.size 55 (fun (_ : Unit) => .func (.yield l1) #[] #[])) W0.heap.size () X Y row h2 hg hr, agrees_own (β := Unit) (show w0.heap.size ≤ W0.heap.size by omega) () X Y row h3 hg hr⟩, h4⟩
  case assign =>
    rintro l2 pre i rest V K hxs hI hK
    gi_wp2
    exact hK _ _ (Stays.refl ..) ⟨hI, rfl⟩
  case body =>
    rintro l2 pre i rest a' V hxs ⟨⟨hJV, hYV, hAV⟩, rfl⟩
    have hi : i < M.count l.length := List.mem_range.1 (by rw [hxs]; simp)
    have hbi := hgr i hi V hAV
    have hw : M.words l (M.count l.length) = pre.map (M.wordAt l) ++ M.wordAt l i :: rest.map (M.wordAt l) := by unfold M.words; rw [hxs, List.map_append, List.map_cons]
    obtain ⟨fn, tmps, assign, body, hy0, hR⟩ := yield_any (hY _ _ _ V hw hJV) 8 (some l2)
    obtain ⟨x, hx⟩ : ∃ x : Int, ((M.wordAt l i : Nat) : Int) = x := ⟨_, rfl⟩
    have hget := group_get hbytes i hi
    rw [hx] at hget
    have hget2 := Lib.hid hget
    have hy : (Instr.yield l1 #[.int .u64 x]).run Try.prog V = .ok (.round l1 fn tmps assign body) V := by rw [← hx]; exact hy0
    have c1 := hYV.cell
    have hlen : (M.group l i).length ≤ 1000 := by rw [M.group_len]; omega
    clear hy0 hget
    gi_wp2_with (refine ⟨trivial, ?_⟩; gi_at_call 32; refine (CallsIn.inRound l2 (callsIn_wide.2 (get_is _ (M.group l i) x 0 _ hbi hlen hget2))).mono ?_; rintro e w3 ⟨rfl, rfl⟩)
    refine hR.mono ?_
    rintro e V3 ⟨rfl, hJ3, hk3⟩
    gi_wp2
    have hs3 : Stays (fun k => (p k ∨ W.heap.size ≤ k) ∧ k < W.heap.size + 3) (W.heap.size + 3) V V3 := hk3.mono (fun k hk => by rcases hk with ⟨h, _⟩ | h; exact h; exact .inr (by omega))
    exact ⟨hs3, hJ3, (hk3.same _ hYV.lt (.inr (Nat.le_refl _))).trans hYV, hAV.stays pn hk3⟩
  case done =>
    rintro D V hD ⟨hJV, _, _⟩ hK
    gi_wp2
    refine ⟨by simp, .inl ⟨_, _, rfl, run_takeDeferred hK, ?_⟩⟩
    exact ⟨_, results_none rfl _ _ _, ⟨_, rfl⟩, hJ.putObj _ hJV (by omega) hK rfl⟩
end Go.Proofs.Ytmdolblcffnkcaa
