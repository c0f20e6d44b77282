/- What is drawn: bindings, perhaps with something wrong (l20BindsOr). -/
import Derived.Test.YtddhjafpacgdaaaQDB0DB1
import Derived.Test.YtddhjafpacgdaaaQD5Open2D6
namespace Go.Proofs.Ytddhjafpacgdaaa
open Go.RowKit
set_option linter.unusedVariables false
set_option linter.unusedSimpArgs false

/-- Few bindings, short ones, of few variables. -/
structure FewK (k : Nat) (s : List B) : Prop where
  len : s.length ≤ 10001 + 50 * k
  short : ∀ x ∈ s, x.t.length ≤ 41
  fit : FitB s
  vars : ∃ V : List Int, V.length ≤ 10001 + 50 * k ∧ VarsB (· ∈ V) s
abbrev FewB (s : List B) : Prop := FewK 10 s
theorem tot_few {s : List B} (h : ∀ x ∈ s, x.t.length ≤ 41) : tot s ≤ 41 * s.length := by
  induction s with
  | nil => simp [tot]
  | cons x s ih =>
    have h1 := h x (by simp)
    have h2 := ih (fun y hy => h y (by simp [hy]))
    simp [tot]
    omega
theorem FewK.tot {k : Nat} {s : List B} (h : FewK k s) (hk : k ≤ 200) : tot s ≤ 1048576 := by have h1 := tot_few h.short; have h2 := h.len; omega
theorem FewK.mono {k k' : Nat} {s : List B} (h : FewK k s) (hk : k ≤ k') : FewK k' s := by
  obtain ⟨V, h1, h2⟩ := h.vars
  exact ⟨Nat.le_trans h.len (by omega), h.short, h.fit, V, by omega, h2⟩
theorem FewK.top {k : Nat} {s : List B} (h : FewK k s) (hk : k ≤ 10) : FewB s := h.mono hk
theorem VarsB.mono {Q Q' : Int → Prop} {s : List B} (h : VarsB Q s) (hq : ∀ v, Q v → Q' v) : VarsB Q' s := fun x hx => ⟨hq _ (h x hx).1, fun u hu => hq u ((h x hx).2 u hu)⟩
theorem FewK.push {k : Nat} {s : List B} {x : B} (h : FewK k s) (hl : s.length < 20000) (h1 : x.t.length ≤ 41) (h2 : Fit x.t ∧ WfC x.t ∧ (Lit.int .i64 x.v).wf = true) : FewK (k + 1) (s ++ [x]) := by
  obtain ⟨V, hV, hQ⟩ := h.vars
  have hsl := h.len
  refine ⟨by simp; omega, fun y hy => ?_, fun y hy => ?_, (x.v :: varsOf x.t) ++ V, by simp [varsOf]; omega, fun y hy => ?_⟩
  · rcases List.mem_append.1 hy with hy | hy
    · exact h.short y hy
    · simp at hy; subst hy; exact h1
  · rcases List.mem_append.1 hy with hy | hy
    · exact h.fit y hy
    · simp at hy; subst hy; exact h2
  · rcases List.mem_append.1 hy with hy | hy
    · exact (hQ.mono (fun v hv => List.mem_append.2 (.inr hv))) y hy
    · simp at hy; subst hy
      exact ⟨by simp, fun u hu => List.mem_append.2 (.inl (List.mem_cons_of_mem _ (mem_varsOf hu)))⟩
theorem GoodB.few {s : List B} (h : GoodB s) (hv : VarsB (· ≤ 10000) s) : FewK 0 s ∧ s.length ≤ 10001 := by
  have hl := few_len (m := 10000) h.ok.once (fun x hx => ⟨(h.range x hx).1, (hv x hx).1⟩)
  have hm : ∀ u : Int, 0 ≤ u → u ≤ 10000 → u ∈ (List.range 10001).map Int.ofNat := fun u h0 h1 => List.mem_map.2 ⟨u.toNat, List.mem_range.2 (by omega), by simp; omega⟩
  refine ⟨⟨by omega, fun x hx => Nat.le_trans (h.short x hx) (by omega), h.fit, (List.range 10001).map Int.ofNat, by rw [List.length_map, List.length_range]; omega, fun x hx => ⟨hm _ (h.range x hx).1 (hv x hx).1, fun u hu => ?_⟩⟩, hl⟩
  obtain ⟨c, hc, hk, rfl⟩ := hu
  exact hm _ (okC_var ((h.ok.term x hx).2 c hc) hk).1 ((hv x hx).2 c.n ⟨c, hc, hk, rfl⟩)

/-- Bindings were drawn; the reader has gone on, by at most d. -/
def DrewO (w : World) (R p d : Nat) (e : Ending) (w' : World) : Prop :=
  ∃ v s p', e = .returned v ∧ OwnB w' w.heap.size w'.heap.size v s ∧ FewB s ∧ Rd w' R p' ∧ p' ≤ p + d ∧ w.grownBy w' (some R)

theorem OwnB.push {W W2 : World} {lo : Nat} {v u : Value} {s : List B} {x : B} (h : OwnB W lo W.heap.size v s) (hk : ∀ k, lo ≤ k → k < W.heap.size → W2.heap[k]? = W.heap[k]?) (hz : W.heap.size ≤ W2.heap.size) (hlo : lo ≤ W.heap.size) (hu : OwnC W2 W.heap.size u x.t) :
    ∃ us, W2.ownsRow lo 51 2 v s.length (flatB s us) ∧ ∀ (W3 : World) (g' cap' : Nat), W3.ownsRow lo 51 2 (.slice (some ⟨g', 0, none⟩) (s.length + 1) cap') (s.length + 1) (flatB s us ++ [.int .i64 x.v, u]) → W2.grownBy W3 v.ownBlock → g' < W3.heap.size →
      OwnB W3 lo W3.heap.size (.slice (some ⟨g', 0, none⟩) (s.length + 1) cap') (s ++ [x]) := by
  obtain ⟨us, h1, h2, h3, h4, h5, h6⟩ := h
  have key : ∀ {e size n : Nat} {z : Value} {xs : List Value}, W.ownsRow lo e size z n xs → (∀ k, z.ownBlock = some k → k < W.heap.size) → W2.ownsRow lo e size z n xs := fun hz hl => own_block hz (fun k e => hk k (hz.lt k e).1 (hl k e))
  refine ⟨us, key h2 h6, fun W3 g' cap' hown hg hgl => ?_⟩
  have := ownB_push (x := x) (hi := W.heap.size) (hi' := W3.heap.size) h1 (key h2 h6) (fun i q q' => key (h3 i q q') (fun k e => h5 _ (List.getElem_mem q') k e)) h4 h5 (own_lo hu (fun k e => Nat.le_trans hlo (hu.lt k e).1)) (fun k e => (hu.lt k e).1) hown (fun k q q' => hg.block k q q') hg.size hgl
  simpa using this

theorem fit_of {c : C} (h1 : c.s.size ≤ 11) (h2 : -1000000 ≤ c.k ∧ c.k ≤ 1000000) (h3 : -1000000 ≤ c.n ∧ c.n ≤ 1000000) : c.s.size ≤ maxLen ∧ (Lit.int .i64 c.k).wf = true ∧ (Lit.int .i64 c.n).wf = true :=
  ⟨by unfold maxLen; omega, WalkArith.wf_i64 (by omega), WalkArith.wf_i64 (by omega)⟩
theorem fit_all {t : List C} {v : Int} (h : ∀ c ∈ t, c.s.size ≤ 11 ∧ (-1000000 ≤ c.k ∧ c.k ≤ 1000000) ∧ (-1000000 ≤ c.n ∧ c.n ≤ 1000000)) (hv : -1000000 ≤ v ∧ v ≤ 1000000) : Fit t ∧ WfC t ∧ (Lit.int .i64 v).wf = true :=
  ⟨fun c hc => (fit_of (h c hc).1 (h c hc).2.1 (h c hc).2.2).1, fun c hc => (fit_of (h c hc).1 (h c hc).2.1 (h c hc).2.2).2, WalkArith.wf_i64 (by omega)⟩

theorem ownC_one (W : World) (c : C) : OwnC (W.alloc (.cells #[.int .i64 c.k, .int .i64 c.n, .string c.s] 36)) W.heap.size (.slice (some ⟨W.heap.size, 0, none⟩) 1 1) [c] :=
  ⟨rfl, .inr ⟨W.heap.size, 1, _, rfl, Nat.le_refl _, World.alloc_heap_new W _, Nat.le_refl _, by simp [maxLen], rfl, rfl⟩⟩
theorem ownC_two (W : World) (c d : C) : OwnC (W.alloc (.cells #[.int .i64 c.k, .int .i64 c.n, .string c.s, .int .i64 d.k, .int .i64 d.n, .string d.s] 36)) W.heap.size (.slice (some ⟨W.heap.size, 0, none⟩) 2 2) [c, d] :=
  ⟨rfl, .inr ⟨W.heap.size, 2, _, rfl, Nat.le_refl _, World.alloc_heap_new W _, Nat.le_refl _, by simp [maxLen], rfl, rfl⟩⟩
theorem OwnB.own {W : World} {lo hi : Nat} {v : Value} {s : List B} (h : OwnB W lo hi v s) {k : Nat} (e : v.ownBlock = some k) : lo ≤ k := by obtain ⟨us, _, h2, _⟩ := h; exact (h2.lt k e).1
theorem grown_then {w a b c : World} {R : Nat} {row : Option Nat} (h : w.grownBy a (some R)) (hb : Below a.heap.size a b) (hg : b.grownBy c row) (hr : ∀ k, row = some k → w.heap.size ≤ k) : w.grownBy c (some R) :=
  ⟨hg.os.trans (hb.os.trans h.os), hg.tape.trans (hb.tape.trans h.tape), hg.output.trans (hb.output.trans h.output), Nat.le_trans h.size (Nat.le_trans hb.size hg.size), fun k hk hn => (hg.block k (Nat.lt_of_lt_of_le hk (Nat.le_trans h.size hb.size)) (fun e => by have := hr k e.symm; omega)).trans ((hb.block k (Nat.lt_of_lt_of_le hk h.size)).trans (h.block k hk hn))⟩

set_option maxRecDepth 100000 in
set_option maxHeartbeats 4000000 in
theorem bindsOr_any (R p : Nat) (n : Int) (w : World) (hn : 1 ≤ n) (hn2 : n ≤ 1000000) (hp : p ≤ 999970000) (h : Rd w R p) :
    Calls Try.prog 74 #[.pointer (some ⟨R, 0, none⟩), .int .i64 n] w (DrewO w R p 2500) := by
  have hlt := h.lt
  obtain ⟨i0, hi, hz0, hz1, hz2⟩ := info_parts Try.infoSub
  go_enter Try.func74, Try.ntmps74
  go_wp2_with fail
  refine (binds_any R p w (by omega) h).mono ?_
  rintro e w1 ⟨sv, s, p1, rfl, hO1, ⟨hgood, hvars⟩, hR1, hp1, hG1⟩
  obtain ⟨hfew, hsl⟩ := hgood.few hvars
  have HF := hide hfew
  clear hgood hvars hfew h
  go_wp2_with fail
  refine (odd_any R p1 n w1 hn hn2 (by omega) hR1).mono ?_
  rintro e w2 ⟨r, rfl, hR2, hG2⟩
  have hw1 := hG1.size
  have hw2 := hG2.size
  have hO2 : OwnB w2 w.heap.size w2.heap.size sv s := (hO1.grown (Nat.le_refl _) hG2 (fun k e => .inl (by cases e; exact hlt))).hi_le hw2
  have hGG2 : w.grownBy w2 (some R) := grown_trans hG1 hG2
  clear hO1 hR1 hG1 hG2
  obtain ⟨sa, sc, rfl, _, _, _⟩ := hO2.shape
  cases r with
  | false =>
    have HF2 : Hid (DrewO w R p 2500 (.returned (.slice sa s.length sc)) w2) := ⟨_, s, p1 + 1, rfl, hO2, (unhide HF).top (by omega), hR2, by omega, hGG2⟩
    clear hO2 hR2 hGG2
    go_wp2
    go_ret
    exact unhide HF2
  | true =>
    go_wp2_with fail
    refine (pick_any R (p1 + 1) 4 w2 (by omega) (by omega) (by omega) hR2).mono ?_
    rintro e w3 ⟨q, rfl, hq0, hq1, hR3, hG3⟩
    have hw3 := hG3.size
    have hO3 : OwnB w3 w.heap.size w3.heap.size (.slice sa s.length sc) s := (hO2.grown (Nat.le_refl _) hG3 (fun k e => .inl (by cases e; exact hlt))).hi_le hw3
    have hGG3 : w.grownBy w3 (some R) := grown_trans hGG2 hG3
    have hlt3 : R < w3.heap.size := by omega
    clear hO2 hR2 hGG2 hG3
    by_cases e0 : q = 0
    · subst e0
      obtain ⟨us, hrow, hfin⟩ := hO3.push (x := ⟨0, [⟨1, 0, ByteArray.empty⟩]⟩) (W2 := (w3.alloc (.cells #[.int .i64 1, .int .i64 0, .string ByteArray.empty] 36)).alloc (.cells #[.int .i64 0, .slice (some ⟨w3.heap.size, 0, none⟩) 1 1] 51)) (fun k _ hk => (Below.heap_alloc _ _ _ (by simp; omega)).trans (Below.heap_alloc _ _ _ hk)) (by simp; omega) (by omega) (own_below (ownC_one w3 ⟨1, 0, ByteArray.empty⟩) (cell_below _ _))
      have HFE : Hid (∀ (W4 : World) (g' cap' : Nat), W4.ownsRow w.heap.size 51 2 (.slice (some ⟨g', 0, none⟩) (s.length + 1) cap') (s.length + 1) (flatB s us ++ [.int .i64 0, .slice (some ⟨w3.heap.size, 0, none⟩) 1 1]) → ((w3.alloc (.cells #[.int .i64 1, .int .i64 0, .string ByteArray.empty] 36)).alloc (.cells #[.int .i64 0, .slice (some ⟨w3.heap.size, 0, none⟩) 1 1] 51)).grownBy W4 (Value.slice sa s.length sc).ownBlock → g' < W4.heap.size → DrewO w R p 2500 (.returned (.slice (some ⟨g', 0, none⟩) (s.length + 1) cap')) W4) := fun W4 g' cap' q1 q2 q3 =>
        ⟨_, _, p1 + 1 + 1, rfl, hfin W4 g' cap' q1 q2 q3, ((unhide HF).push (by omega) (by simp) (fit_all (fun c hc => by simp at hc; subst hc; exact ⟨by decide, by decide, by decide⟩) (by decide))).top (by omega), ((hR3.alloc _).alloc _).grown q2 (fun k e => by have := hO3.own e; omega), by omega, grown_then hGG3 (bstep (cell_below _ _) (cell_below _ _)) q2 (fun k e => hO3.own e)⟩
      clear hfin hO3 hR3 hGG3
      go_wp2_with (at_builtin; refine wpList_append_lies _ rfl _ _ 38 rfl w.heap.size 51 i0 _ 2 32 Try.underlying38 hi hz0 hz1 hz2 rfl (by decide) _ s.length _ rfl hrow ⟨w3.heap.size + 1, 0, none⟩ 1 1 [.int .i64 0, .slice (some ⟨w3.heap.size, 0, none⟩) 1 1] rfl rfl (two_at _ _ _ _ _ (by simp)) (by simp [Value.oneCell']) (by omega) (by unfold maxLen; omega) (by omega) (by simp; omega) (w3.heap.size + 1 + 1) (by simp) ?_; intro g' cap' w4 hown hgrow hat hgl)
      go_ret
      exact unhide HFE w4 g' cap' hown hgrow hgl
    by_cases e1 : q = 1
    · subst e1
      have hRa := hR3.alloc (.cells #[.int .i64 (-1), .int .i64 100000] 3)
      go_wp2_with fail
      refine (pick_any R (p1 + 1 + 1) 2 _ (by omega) (by omega) (by omega) hRa).mono ?_
      rintro e w4 ⟨x, rfl, hx0, hx1, hR4, hG4⟩
      have hw4 := hG4.size
      simp at hw4
      obtain ⟨z, hz, hzv⟩ : ∃ z : Int, w4.cell? ⟨w3.heap.size, x.toNat, none⟩ = some (.int .i64 z) ∧ (-1000000 ≤ z ∧ z ≤ 1000000) := by
        have hb : w4.heap[w3.heap.size]? = some (.cells #[.int .i64 (-1), .int .i64 100000] 3 (0, 0)) := (hG4.block _ (by simp) (by simp; omega)).trans (World.alloc_heap_new w3 _)
        by_cases hx : x = 0
        · subst hx; exact ⟨-1, by simp [World.cell?, hb], by omega⟩
        · have : x = 1 := by omega
          subst this; exact ⟨100000, by simp [World.cell?, hb], by omega⟩
      obtain ⟨xn, rfl⟩ := Int.eq_ofNat_of_zero_le hx0
      simp only [Int.toNat_natCast] at hz
      have hO4 : OwnB w4 w.heap.size w4.heap.size (.slice sa s.length sc) s := ((hO3.below (Nat.le_refl _) (cell_below w3 (.cells #[.int .i64 (-1), .int .i64 100000] 3))).grown (by simp) hG4 (fun k e => .inl (by cases e; exact hlt))).hi_le (by omega)
      have hGG4 : w.grownBy w4 (some R) := grown_trans (grown_then (row := none) hGG3 (cell_below w3 (.cells #[.int .i64 (-1), .int .i64 100000] 3)) ⟨rfl, rfl, rfl, Nat.le_refl _, fun _ _ _ => rfl⟩ (by simp)) hG4
      obtain ⟨us, hrow, hfin⟩ := hO4.push (x := ⟨z, [⟨2, 0, ByteArray.empty⟩]⟩) (W2 := (w4.alloc (.cells #[.int .i64 2, .int .i64 0, .string ByteArray.empty] 36)).alloc (.cells #[.int .i64 z, .slice (some ⟨w4.heap.size, 0, none⟩) 1 1] 51)) (fun k _ hk => (Below.heap_alloc _ _ _ (by simp; omega)).trans (Below.heap_alloc _ _ _ hk)) (by simp; omega) (by omega) (own_below (ownC_one w4 ⟨2, 0, ByteArray.empty⟩) (cell_below _ _))
      have HFE : Hid (∀ (W4 : World) (g' cap' : Nat), W4.ownsRow w.heap.size 51 2 (.slice (some ⟨g', 0, none⟩) (s.length + 1) cap') (s.length + 1) (flatB s us ++ [.int .i64 z, .slice (some ⟨w4.heap.size, 0, none⟩) 1 1]) → ((w4.alloc (.cells #[.int .i64 2, .int .i64 0, .string ByteArray.empty] 36)).alloc (.cells #[.int .i64 z, .slice (some ⟨w4.heap.size, 0, none⟩) 1 1] 51)).grownBy W4 (Value.slice sa s.length sc).ownBlock → g' < W4.heap.size → DrewO w R p 2500 (.returned (.slice (some ⟨g', 0, none⟩) (s.length + 1) cap')) W4) := fun W4 g' cap' q1 q2 q3 =>
        ⟨_, _, p1 + 1 + 1 + 1, rfl, hfin W4 g' cap' q1 q2 q3, ((unhide HF).push (by omega) (by simp) (fit_all (fun c hc => by simp at hc; subst hc; exact ⟨by decide, by decide, by decide⟩) hzv)).top (by omega), ((hR4.alloc _).alloc _).grown q2 (fun k e => by have := hO4.own e; omega), by omega, grown_then hGG4 (bstep (cell_below _ _) (cell_below _ _)) q2 (fun k e => hO4.own e)⟩
      clear hfin hO3 hR3 hGG3 hO4 hR4 hGG4 hG4
      go_wp2_with (at_builtin; refine wpList_append_lies _ rfl _ _ 38 rfl w.heap.size 51 i0 _ 2 32 Try.underlying38 hi hz0 hz1 hz2 rfl (by decide) _ s.length _ rfl hrow ⟨w4.heap.size + 1, 0, none⟩ 1 1 [.int .i64 z, .slice (some ⟨w4.heap.size, 0, none⟩) 1 1] rfl rfl (two_at _ _ _ _ _ (by simp)) (by simp [Value.oneCell']) (by omega) (by unfold maxLen; omega) (by omega) (by simp; omega) (w4.heap.size + 1 + 1) (by simp) ?_; intro g' cap' w5 hown hgrow hat hgl)
      go_ret
      exact unhide HFE w5 g' cap' hown hgrow hgl
    by_cases e2 : q = 2
    · subst e2
      go_wp2_with fail
      refine (term_ok R (p1 + 1 + 1) 8 3 _ (by omega) (by omega) (by omega) (by omega) (by omega) hR3).mono ?_
      rintro e w4 ⟨v4, t4, p4, rfl, hT4, ht4, hd4, hR4, hp4, hG4⟩
      obtain ⟨ta, tc, rfl, hrow4⟩ := hT4.shape
      have hl4 := trm_len ht4
      obtain ⟨tb, toff, rfl, hAt4⟩ := hrow4.resolve_left (fun e => by rw [e] at hl4; simp at hl4)
      go_wp2_with fail
      refine (spoil_any R p4 tb toff tc t4 _ hl4.1 hl4.2 hd4 hAt4 (by omega) hR4).mono ?_
      rintro e w5 ⟨v5, t5, p5, rfl, hT5, _, hl5, hd5, hR5, hp5, hG5⟩
      have hw4 := hG4.size
      have hw5 := hG5.size
      have hGG5 : w.grownBy w5 (some R) := grown_trans (grown_trans hGG3 hG4) hG5
      obtain ⟨va, vc, rfl, _⟩ := hT5.shape
      obtain ⟨us, hrow, hfin⟩ := hO3.push (x := ⟨9, t5⟩) (W2 := w5.alloc (.cells #[.int .i64 9, .slice va t5.length vc] 51)) (fun k hk0 hk => (Below.heap_alloc _ _ _ (by omega)).trans ((hG5.block k (by omega) (by simp; omega)).trans (hG4.block k hk (by simp; omega)))) (by simp; omega) (by omega) (own_below (own_lo hT5 (fun k e => by have := (hT5.lt k e).1; omega)) (cell_below _ _))
      have HFE : Hid (∀ (W4 : World) (g' cap' : Nat), W4.ownsRow w.heap.size 51 2 (.slice (some ⟨g', 0, none⟩) (s.length + 1) cap') (s.length + 1) (flatB s us ++ [.int .i64 9, .slice va t5.length vc]) → (w5.alloc (.cells #[.int .i64 9, .slice va t5.length vc] 51)).grownBy W4 (Value.slice sa s.length sc).ownBlock → g' < W4.heap.size → DrewO w R p 2500 (.returned (.slice (some ⟨g', 0, none⟩) (s.length + 1) cap')) W4) := fun W4 g' cap' q1 q2 q3 =>
        ⟨_, _, p5, rfl, hfin W4 g' cap' q1 q2 q3, ((unhide HF).push (by omega) hl5 (fit_all (fun c hc => by obtain ⟨a1, a2, a3, a4, a5⟩ := hd5 c hc; exact ⟨a5, by omega, by omega⟩) ⟨by show (-1000000 : Int) ≤ 9; omega, by show (9 : Int) ≤ 1000000; omega⟩)).top (by omega), (hR5.alloc _).grown q2 (fun k e => by have := hO3.own e; omega), by omega, grown_then hGG5 (cell_below _ _) q2 (fun k e => hO3.own e)⟩
      clear hfin hO3 hR3 hGG3 hR4 hR5 hG4 hG5 hGG5 hT4 hT5 hd4 hd5 ht4 hAt4 hrow4
      go_wp2_with (at_builtin; refine wpList_append_lies _ rfl _ _ 38 rfl w.heap.size 51 i0 _ 2 32 Try.underlying38 hi hz0 hz1 hz2 rfl (by decide) _ s.length _ rfl hrow ⟨w5.heap.size, 0, none⟩ 1 1 [.int .i64 9, .slice va t5.length vc] rfl rfl (two_at _ _ _ _ _ rfl) (by simp [Value.oneCell']) (by omega) (by unfold maxLen; omega) (by omega) (by simp; omega) (w5.heap.size + 1) (by simp) ?_; intro g' cap' w6 hown hgrow hat hgl)
      go_ret
      exact unhide HFE w6 g' cap' hown hgrow hgl
    obtain ⟨us, hrow, hfin⟩ := hO3.push (x := ⟨7, [⟨1, 8, ByteArray.empty⟩]⟩) (W2 := (w3.alloc (.cells #[.int .i64 1, .int .i64 8, .string ByteArray.empty] 36)).alloc (.cells #[.int .i64 7, .slice (some ⟨w3.heap.size, 0, none⟩) 1 1] 51)) (fun k _ hk => (Below.heap_alloc _ _ _ (by simp; omega)).trans (Below.heap_alloc _ _ _ hk)) (by simp; omega) (by omega) (own_below (ownC_one w3 ⟨1, 8, ByteArray.empty⟩) (cell_below _ _))
    have hb0 : (q == 0) = false := by simpa using e0
    have hb1 : (q == 1) = false := by simpa using e1
    have hb2 : (q == 2) = false := by simpa using e2
    go_wp2_with (first
      | (at_builtin; refine wpList_append_lies _ rfl _ _ 38 rfl w.heap.size 51 i0 _ 2 32 Try.underlying38 hi hz0 hz1 hz2 rfl (by decide) _ s.length _ rfl hrow ⟨w3.heap.size + 1, 0, none⟩ 1 1 [.int .i64 7, .slice (some ⟨w3.heap.size, 0, none⟩) 1 1] rfl rfl (two_at _ _ _ _ _ (by simp)) (by simp [Value.oneCell']) (by omega) (by unfold maxLen; omega) (by omega) (by simp; omega) (w3.heap.size + 1 + 1) (by simp) ?_; intro g1 cap1 w4 hown hgrow hat hgl; have hO4 := hfin w4 g1 cap1 hown hgrow hgl; have hR4 : Rd w4 R (p1 + 1 + 1) := ((hR3.alloc _).alloc _).grown hgrow (fun k e => by have := hO3.own e; omega); have hGG4 : w.grownBy w4 (some R) := grown_then hGG3 (bstep (cell_below _ _) (cell_below _ _)) hgrow (fun k e => hO3.own e); have HF1 := hide ((unhide HF).push (x := ⟨7, [⟨1, 8, ByteArray.empty⟩]⟩) (by omega) (by simp) (fit_all (fun c hc => by simp at hc; subst hc; exact ⟨by decide, by decide, by decide⟩) (by decide))); have hw4 := hGG4.size; obtain ⟨s1, hs1⟩ : ∃ s1, s1 = s ++ [(⟨7, [⟨1, 8, ByteArray.empty⟩]⟩ : B)] := ⟨_, rfl⟩; have hsl1 : s1.length = s.length + 1 := (by rw [hs1]; simp); rw [← hs1] at hO4 HF1; clear hs1 hfin hown hgrow hat hgl hO3 hR3 hGG3 hrow HF; obtain ⟨vs, hrow, hfin⟩ := hO4.push (x := ⟨8, [⟨3, 1, ⟨#[102]⟩⟩, ⟨1, 7, ByteArray.empty⟩]⟩) (W2 := (w4.alloc (.cells #[.int .i64 3, .int .i64 1, .string ⟨#[102]⟩, .int .i64 1, .int .i64 7, .string ByteArray.empty] 36)).alloc (.cells #[.int .i64 8, .slice (some ⟨w4.heap.size, 0, none⟩) 2 2] 51)) (fun k _ hk => (Below.heap_alloc _ _ _ (by simp; omega)).trans (Below.heap_alloc _ _ _ hk)) (by simp; omega) (by omega) (own_below (ownC_two w4 ⟨3, 1, ⟨#[102]⟩⟩ ⟨1, 7, ByteArray.empty⟩) (cell_below _ _)); have HFE : Hid (∀ (W4 : World) (g' cap' : Nat), W4.ownsRow w.heap.size 51 2 (.slice (some ⟨g', 0, none⟩) (s1.length + 1) cap') (s1.length + 1) (flatB s1 vs ++ [.int .i64 8, .slice (some ⟨w4.heap.size, 0, none⟩) 2 2]) → ((w4.alloc (.cells #[.int .i64 3, .int .i64 1, .string ⟨#[102]⟩, .int .i64 1, .int .i64 7, .string ByteArray.empty] 36)).alloc (.cells #[.int .i64 8, .slice (some ⟨w4.heap.size, 0, none⟩) 2 2] 51)).grownBy W4 (Value.slice (some ⟨g1, 0, none⟩) (s.length + 1) cap1).ownBlock → g' < W4.heap.size → DrewO w R p 2500 (.returned (.slice (some ⟨g', 0, none⟩) (s1.length + 1) cap')) W4) := fun W4 g' cap' q1 q2 q3 => ⟨_, _, p1 + 1 + 1, rfl, hfin W4 g' cap' q1 q2 q3, ((unhide HF1).push (by omega) (by simp) (fit_all (fun c hc => by simp at hc; rcases hc with rfl | rfl <;> exact ⟨by decide, by decide, by decide⟩) (by decide))).top (by omega), ((hR4.alloc _).alloc _).grown q2 (fun k e => by have := hO4.own e; omega), by omega, grown_then hGG4 (bstep (cell_below _ _) (cell_below _ _)) q2 (fun k e => hO4.own e)⟩; clear hfin hO4 hR4 hGG4)
      | (at_builtin; refine wpList_append_lies _ rfl _ _ 38 rfl w.heap.size 51 i0 _ 2 32 Try.underlying38 hi hz0 hz1 hz2 rfl (by decide) _ s1.length _ rfl hrow ⟨w4.heap.size + 1, 0, none⟩ 1 1 [.int .i64 8, .slice (some ⟨w4.heap.size, 0, none⟩) 2 2] rfl rfl (two_at _ _ _ _ _ (by simp)) (by simp [Value.oneCell']) (by omega) (by unfold maxLen; omega) (by omega) (by simp; omega) (w4.heap.size + 1 + 1) (by simp) ?_; intro g' cap' w5 hown hgrow hat hgl))
    go_ret
    have hlast := unhide HFE w5 g' cap' hown hgrow hgl
    rw [hsl1] at hlast
    exact hlast
end Go.Proofs.Ytddhjafpacgdaaa
