/- A goal that is drawn. -/
import Derived.Test.YtmiofbifffnocaaQGD1
import Derived.Test.YtmiofbifffnocaaQG2
import Derived.Test.YtmiofbifffnocaaQSB1
namespace Go.Proofs.Ytmiofbifffnocaa
open Go.RowKit
set_option linter.unusedVariables false
set_option linter.unusedSimpArgs false

theorem four_cells {w : World} {B : Nat} {a b c d : Value} (h : w.heap[B]? = some (.cells #[a, b, c, d] 49 (0, 0))) :
    w.cell? ⟨B, 0, none⟩ = some a ∧ w.cell? ⟨B, 1, none⟩ = some b ∧ w.cell? ⟨B, 2, none⟩ = some c ∧ w.cell? ⟨B, 3, none⟩ = some d ∧ w.frozen? ⟨B, 0, none⟩ = false ∧ w.frozen? ⟨B, 1, none⟩ = false ∧ w.frozen? ⟨B, 2, none⟩ = false ∧ w.frozen? ⟨B, 3, none⟩ = false := by
  simp [World.cell?, World.frozen?, h]
/-- Places that are drawn, in memory of this call. -/
structure Pl (base : Nat) (W : World) (v : Value) (t : List C) : Prop where
  own : OwnC W base v t
  len : t.length ≤ 41
  dc : ∀ c ∈ t, Dc c
theorem Pl.nil (base : Nat) (W : World) : Pl base W (.slice none 0 0) [] := ⟨World.ownsRow_nil _ _ _ _, by simp, fun c h => by simp at h⟩
theorem Pl.grown {base R : Nat} {W W' : World} {v : Value} {t : List C} (h : Pl base W v t) (hR : R < base) (hg : W.grownBy W' (some R)) : Pl base W' v t :=
  ⟨own_apart h.own hg (fun k e => by cases e; exact .inl hR), h.len, h.dc⟩
theorem Pl.alloc {base : Nat} {W : World} {v : Value} {t : List C} (h : Pl base W v t) (o : Obj) : Pl base (W.alloc o) v t := ⟨h.own.below (cell_below _ _), h.len, h.dc⟩
theorem Pl.set {base G i : Nat} {W : World} {v u : Value} {t : List C} {a b c d : Value} (h : Pl base W v t) (hG : W.heap[G]? = some (.cells #[a, b, c, d] 49 (0, 0))) : Pl base (W.setCell ⟨G, i, none⟩ u) v t := by
  refine ⟨?_, h.len, h.dc⟩
  have h1 := h.own
  refine own_block h1 (fun k ek => Below.heap_setCell _ _ _ _ ?_)
  rcases h1.2 with ⟨rfl, _⟩ | ⟨g, cap, cur, rfl, _, hgb, _⟩
  · simp [Value.ownBlock] at ek
  · obtain rfl : g = k := by simpa [Value.ownBlock] using ek
    intro e
    have e' : g = G := e
    rw [e', hG] at hgb
    cases hgb

/-- A goal that is being drawn: the reader, the result, the goal. -/
structure GS (w W : World) (R p G : Nat) (k : Int) (va vb vc : Value) (a b c : List C) : Prop where
  rd : Rd W R p
  grown : w.grownBy W (some R)
  lt : R < w.heap.size
  res : W.heap[w.heap.size]? = some (.cells #[.int .i64 0, .slice none 0 0, .slice none 0 0, .slice none 0 0] 49 (0, 0))
  gb : W.heap[G]? = some (.cells #[.int .i64 k, va, vb, vc] 49 (0, 0))
  gt : w.heap.size < G
  kw : -100 ≤ k ∧ k ≤ 100
  pa : Pl w.heap.size W va a
  pb : Pl w.heap.size W vb b
  pc : Pl w.heap.size W vc c
theorem GS.grow {w W W' : World} {R p p' G : Nat} {k : Int} {va vb vc : Value} {a b c : List C} (h : GS w W R p G k va vb vc a b c) (hg : W.grownBy W' (some R)) (hr : Rd W' R p') : GS w W' R p' G k va vb vc a b c := by
  have hl := h.lt
  have hG := (Array.getElem?_eq_some_iff.1 h.gb).1
  have hgt := h.gt
  refine ⟨hr, grown_trans h.grown hg, hl, (hg.block _ (by omega) (fun e => by injection e; omega)).trans h.res, (hg.block _ hG (fun e => by injection e; omega)).trans h.gb, h.gt, h.kw, h.pa.grown hl hg, h.pb.grown hl hg, h.pc.grown hl hg⟩
theorem GS.alloc {w W : World} {R p G : Nat} {k : Int} {va vb vc : Value} {a b c : List C} (h : GS w W R p G k va vb vc a b c) (o : Obj) : GS w (W.alloc o) R p G k va vb vc a b c := h.grow (grown_alloc _ _ _) (h.rd.alloc _)
theorem heap_set_here {W : World} {G : Nat} {o : Obj} {i : Nat} {v : Value} {x0 x1 x2 x3 : Value} {y : Array Value} (h : W.heap[G]? = some (.cells #[x0, x1, x2, x3] 49 (0, 0))) (hy : (#[x0, x1, x2, x3] : Array Value).setIfInBounds i v = y) : (W.setCell ⟨G, i, none⟩ v).heap[G]? = some (.cells y 49 (0, 0)) := by
  obtain ⟨hlt, hk⟩ := Array.getElem?_eq_some_iff.1 h
  show (W.heap.modify G _)[G]? = _
  rw [Array.getElem?_eq_getElem (by rw [Array.size_modify]; exact hlt), Array.getElem_modify_self, hk, ← hy]
  rfl
theorem GS.set {w W : World} {R p G i : Nat} {k k' : Int} {va vb vc va' vb' vc' u : Value} {a b c a' b' c' : List C} (h : GS w W R p G k va vb vc a b c) (hy : (#[.int .i64 k, va, vb, vc] : Array Value).setIfInBounds i u = #[.int .i64 k', va', vb', vc']) (hk : -100 ≤ k' ∧ k' ≤ 100) (ha : Pl w.heap.size W va' a') (hb : Pl w.heap.size W vb' b') (hc : Pl w.heap.size W vc' c') : GS w (W.setCell ⟨G, i, none⟩ u) R p G k' va' vb' vc' a' b' c' := by
  have hgt := h.gt
  have hl := h.lt
  exact ⟨h.rd.set (a := ⟨G, i, none⟩) (by show R < G; omega) u, grown_set h.grown (p := ⟨G, i, none⟩) (by show w.heap.size ≤ G; omega) u, hl, (Below.heap_setCell _ _ _ _ (by show w.heap.size ≠ G; omega)).trans h.res, heap_set_here (o := .cells #[] 0) h.gb hy, hgt, hk, ha.set h.gb, hb.set h.gb, hc.set h.gb⟩

/-- A goal that was drawn. -/
def DrewG (w : World) (R p : Nat) (e : Ending) (w' : World) : Prop :=
  ∃ (k : Int) (va vb vc : Value) (a b c : List C), e = .returned (.agg #[.int .i64 k, va, vb, vc]) ∧ (-100 ≤ k ∧ k ≤ 100) ∧ Pl w.heap.size w' va a ∧ Pl w.heap.size w' vb b ∧ Pl w.heap.size w' vc c ∧ w.grownBy w' (some R)
theorem pl_drew {w W w' : World} {R p lo hi d : Nat} {v : Value} {t : List C} (h1 : OwnC w' W.heap.size v t) (hb : w.heap.size ≤ W.heap.size) (h2 : t.length ≤ 41) (h3 : ∀ c ∈ t, Dc c) : Pl w.heap.size w' v t := ⟨h1.base hb, h2, h3⟩

theorem gs_begin {w w1 : World} {R q : Nat} {k : Int} (hlt : R < w.heap.size) (hR1 : Rd w1 R q) (hG1 : (w.alloc (.cells #[.int .i64 0, .slice none 0 0, .slice none 0 0, .slice none 0 0] 49)).grownBy w1 (some R)) (hk : -100 ≤ k ∧ k ≤ 100) :
    GS w (w1.alloc (.cells #[.int .i64 k, .slice none 0 0, .slice none 0 0, .slice none 0 0] 49)) R q w1.heap.size k (.slice none 0 0) (.slice none 0 0) (.slice none 0 0) [] [] [] := by
  have hs : w.heap.size + 1 ≤ w1.heap.size := by have := hG1.size; simpa using this
  refine ⟨hR1.alloc _, grown_trans (grown_first hG1) (grown_alloc _ _ _), hlt, ?_, World.alloc_heap_new _ _, by omega, hk, Pl.nil _ _, Pl.nil _ _, Pl.nil _ _⟩
  rw [Below.heap_alloc w1 _ _ (by omega), hG1.block _ (by simp) (fun e => by injection e; omega)]
  exact World.alloc_heap_new _ _
theorem lit4g (r : Int) (h0 : 0 ≤ r) (h1 : r < 5) (j : Nat) (hj : j < 4) : ∃ x : Int, (-100 ≤ x ∧ x ≤ 100) ∧ ∀ W : World, (W.alloc (.cells #[.int .i64 0, .int .i64 6, .int .i64 7, .int .i64 (1 + r)] 3)).cell? ⟨W.heap.size, j, none⟩ = some (.int .i64 x) := by
  have key : ∀ W : World, (W.alloc (.cells #[.int .i64 0, .int .i64 6, .int .i64 7, .int .i64 (1 + r)] 3)).heap[W.heap.size]? = some (.cells #[.int .i64 0, .int .i64 6, .int .i64 7, .int .i64 (1 + r)] 3) := fun W => World.alloc_heap_new W _
  match j, hj with
  | 0, _ => exact ⟨0, by omega, fun W => by simp only [World.cell?]; rw [key W]; rfl⟩
  | 1, _ => exact ⟨6, by omega, fun W => by simp only [World.cell?]; rw [key W]; rfl⟩
  | 2, _ => exact ⟨7, by omega, fun W => by simp only [World.cell?]; rw [key W]; rfl⟩
  | 3, _ => exact ⟨1 + r, by omega, fun W => by simp only [World.cell?]; rw [key W]; rfl⟩
theorem Pl.fin {base r0 : Nat} {W : World} {v : Value} {t : List C} {a b c d x0 x1 x2 x3 : Value} (h : Pl base W v t) (hG : W.heap[r0]? = some (.cells #[a, b, c, d] 49 (0, 0))) : Pl base ((((W.setCell ⟨r0, 0, none⟩ x0).setCell ⟨r0, 1, none⟩ x1).setCell ⟨r0, 2, none⟩ x2).setCell ⟨r0, 3, none⟩ x3) v t := by
  refine ⟨?_, h.len, h.dc⟩
  have h1 := h.own
  refine own_block h1 (fun k ek => ?_)
  have hne : k ≠ r0 := by
    rcases h1.2 with ⟨rfl, _⟩ | ⟨g, cap, cur, rfl, _, hgb, _⟩
    · simp [Value.ownBlock] at ek
    · obtain rfl : g = k := by simpa [Value.ownBlock] using ek
      intro e
      rw [e, hG] at hgb
      cases hgb
  rw [Below.heap_setCell _ _ _ _ hne, Below.heap_setCell _ _ _ _ hne, Below.heap_setCell _ _ _ _ hne, Below.heap_setCell _ _ _ _ hne]
theorem GS.fin {w W : World} {R p p0 G : Nat} {k : Int} {va vb vc x0 x1 x2 x3 : Value} {a b c : List C} (h : GS w W R p G k va vb vc a b c) :
    DrewG w R p0 (.returned (.agg #[.int .i64 k, va, vb, vc])) ((((W.setCell ⟨w.heap.size, 0, none⟩ x0).setCell ⟨w.heap.size, 1, none⟩ x1).setCell ⟨w.heap.size, 2, none⟩ x2).setCell ⟨w.heap.size, 3, none⟩ x3) :=
  ⟨k, va, vb, vc, a, b, c, rfl, h.kw, h.pa.fin h.res, h.pb.fin h.res, h.pc.fin h.res, grown_set (grown_set (grown_set (grown_set h.grown (Nat.le_refl _) _) (Nat.le_refl _) _) (Nat.le_refl _) _) (Nat.le_refl _) _⟩
theorem pl_of {w W0 W : World} {v : Value} {t : List C} (h : OwnC W W0.heap.size v t) (hb : w.heap.size ≤ W0.heap.size) (hl : t.length ≤ 41) (hd : ∀ c ∈ t, Dc c) : Pl w.heap.size W v t := ⟨h.base hb, hl, hd⟩
theorem GS.size {w W : World} {R p G : Nat} {k : Int} {va vb vc : Value} {a b c : List C} (h : GS w W R p G k va vb vc a b c) : w.heap.size ≤ W.heap.size := h.grown.size
theorem pl_one (w W : World) (hb : w.heap.size ≤ W.heap.size) (c : C) (hc : Dc c) : Pl w.heap.size (W.alloc (.cells #[.int .i64 c.k, .int .i64 c.n, .string c.s] 34)) (.slice (some ⟨W.heap.size, 0, none⟩) 1 1) [c] := ⟨OwnC.base (own_one W c) hb, by simp, fun d hd => by simp at hd; subst hd; exact hc⟩

set_option maxRecDepth 100000 in
set_option maxHeartbeats 8000000 in
theorem goalOr_any (R p : Nat) (n : Int) (w : World) (hn : 1 ≤ n) (hn2 : n ≤ 1000000) (hp : p ≤ 999970000) (h : Rd w R p) :
    Calls Try.prog 59 #[.pointer (some ⟨R, 0, none⟩), .int .i64 n] w fun e w' => DrewG w R p e w' := by
  have hlt := h.lt
  go_enter Try.func59, Try.ntmps59
  go_wp2_with fail
  refine (pick_any R p 5 _ (by omega) (by omega) (by omega) (h.alloc _)).mono ?_
  rintro e w1 ⟨r, rfl, h0, h1, hR1, hG1⟩
  clear h
  obtain rfl | rfl | rfl | rfl | rfl : r = 0 ∨ r = 1 ∨ r = 2 ∨ r = 3 ∨ r = 4 := by omega
  · have S0 := gs_begin (k := 1) hlt hR1 hG1 (by omega)
    clear hG1 hR1
    go_wp2_with fail
    refine (head_any R _ _ (by omega) S0.rd).mono ?_
    rintro e x0 ⟨v, t0, q0, rfl, ho, _, hl, hD, hRr, hq0, hGg⟩
    have P0 := pl_of ho S0.size (by omega) hD
    obtain ⟨xa0, xc0, rfl, _⟩ := shape3 ho
    have T0 := S0.grow hGg hRr
    obtain ⟨c0, c1, c2, c3, f0, f1, f2, f3⟩ := four_cells T0.gb
    have S1 := T0.set (i := 1) (u := .slice xa0 t0.length xc0) rfl (by omega) P0 T0.pb T0.pc
    clear ho hl hD hRr hGg P0 T0 S0
    go_wp2_with fail
    clear c0 c1 c2 c3 f0 f1 f2 f3
    have hS := S1
    refine (odd_any R _ n _ hn hn2 (by omega) hS.rd).mono ?_
    rintro e wo ⟨o, rfl, hRo, hGo⟩
    have hT := hS.grow hGo hRo
    clear hS hRo hGo
    cases o with
    | false =>
      have hW := hT
      have hX := hT
      obtain ⟨c0, c1, c2, c3, f0, f1, f2, f3⟩ := four_cells hT.gb
      clear hT
      obtain ⟨k0, k1, k2, k3, g0, g1, g2, g3⟩ := four_cells hW.res
      have hgt := hW.gt
      have hne := Nat.ne_of_lt hgt
      have hne' := Nat.ne_of_gt hgt
      clear hW
      go_wp2
      exact bodyPost_ret (by simp [results, Try.results59, go_sem, *]) rfl hX.fin
    | true =>
      go_wp2_with fail
      refine (pick_any R _ 5 _ (by omega) (by omega) (by omega) hT.rd).mono ?_
      rintro e wp ⟨y, rfl, y0, y1, hRp, hGp⟩
      have hU := hT.grow hGp hRp
      clear hT hRp hGp
      obtain rfl | rfl | rfl | rfl | rfl : y = 0 ∨ y = 1 ∨ y = 2 ∨ y = 3 ∨ y = 4 := by omega
      · go_wp2_with fail
        refine (pick_any R _ 5 _ (by omega) (by omega) (by omega) hU.rd).mono ?_
        rintro e wq ⟨z, rfl, z0, z1, hRq, hGq⟩
        have hV := hU.grow hGq hRq
        clear hU hRq hGq
        go_wp2_with fail
        refine (pick_any R _ 4 _ (by omega) (by omega) (by omega) (hV.alloc _).rd).mono ?_
        rintro e ws ⟨u, rfl, u0, u1, hRs, hGs⟩
        obtain ⟨j, rfl⟩ := Int.eq_ofNat_of_zero_le u0
        have hj : j < 4 := by omega
        obtain ⟨x, hx, hcx⟩ := lit4g z z0 z1 j hj
        have cx := cell_grown hGs (hcx wq) (by have := hV.lt; have := hV.size; omega)
        have hW := (hV.alloc _).grow hGs hRs
        obtain ⟨c0, c1, c2, c3, f0, f1, f2, f3⟩ := four_cells hW.gb
        have hX := hW.set (i := 0) (u := .int .i64 x) rfl hx hW.pa hW.pb hW.pc
        clear hV hGs hRs hcx hx
        obtain ⟨k0, k1, k2, k3, g0, g1, g2, g3⟩ := four_cells hW.res
        have hgt := hW.gt
        have hne := Nat.ne_of_lt hgt
        have hne' := Nat.ne_of_gt hgt
        clear hW
        go_wp2
        exact bodyPost_ret (by simp [results, Try.results59, go_sem, *]) rfl hX.fin
      · go_wp2_with fail
        refine (termOr_any R _ 1 _ (by omega) (by omega) (by omega) hU.rd).mono ?_
        rintro e ws ⟨v, t, q', rfl, ho, _, hl, hD, hRs, hq', hGs⟩
        have P := pl_of ho hU.size (by omega) hD
        obtain ⟨xa, xc, rfl, _⟩ := shape3 ho
        have hW := hU.grow hGs hRs
        obtain ⟨c0, c1, c2, c3, f0, f1, f2, f3⟩ := four_cells hW.gb
        have hX := hW.set (i := 1) (u := .slice xa t.length xc) rfl (by have := hW.kw; omega) P hW.pb hW.pc
        clear hU ho hl hD hRs hGs P
        obtain ⟨k0, k1, k2, k3, g0, g1, g2, g3⟩ := four_cells hW.res
        have hgt := hW.gt
        have hne := Nat.ne_of_lt hgt
        have hne' := Nat.ne_of_gt hgt
        clear hW
        go_wp2
        exact bodyPost_ret (by simp [results, Try.results59, go_sem, *]) rfl hX.fin
      · have hW := hU.alloc (.cells #[.int .i64 1, .int .i64 8, .string (ByteArray.mk #[])] 34)
        have P := pl_one w wp hU.size ⟨1, 8, ByteArray.mk #[]⟩ (dc_mk (by omega) (by omega) (by omega) (by omega) (by decide))
        obtain ⟨c0, c1, c2, c3, f0, f1, f2, f3⟩ := four_cells hW.gb
        have hX := hW.set (i := 2) (u := .slice (some ⟨wp.heap.size, 0, none⟩) 1 1) rfl (by have := hW.kw; omega) hW.pa P hW.pc
        clear hU P
        obtain ⟨k0, k1, k2, k3, g0, g1, g2, g3⟩ := four_cells hW.res
        have hgt := hW.gt
        have hne := Nat.ne_of_lt hgt
        have hne' := Nat.ne_of_gt hgt
        clear hW
        go_wp2
        exact bodyPost_ret (by simp [results, Try.results59, go_sem, *]) rfl hX.fin
      · have hW := hU.alloc (.cells #[.int .i64 2, .int .i64 0, .string (ByteArray.mk #[])] 34)
        have P := pl_one w wp hU.size ⟨2, 0, ByteArray.mk #[]⟩ (dc_mk (by omega) (by omega) (by omega) (by omega) (by decide))
        obtain ⟨c0, c1, c2, c3, f0, f1, f2, f3⟩ := four_cells hW.gb
        have hX := hW.set (i := 3) (u := .slice (some ⟨wp.heap.size, 0, none⟩) 1 1) rfl (by have := hW.kw; omega) hW.pa hW.pb P
        clear hU P
        obtain ⟨k0, k1, k2, k3, g0, g1, g2, g3⟩ := four_cells hW.res
        have hgt := hW.gt
        have hne := Nat.ne_of_lt hgt
        have hne' := Nat.ne_of_gt hgt
        clear hW
        go_wp2
        exact bodyPost_ret (by simp [results, Try.results59, go_sem, *]) rfl hX.fin
      · have hW := hU.alloc (.cells #[.int .i64 2, .int .i64 3, .string (ByteArray.mk #[])] 34)
        have P := pl_one w wp hU.size ⟨2, 3, ByteArray.mk #[]⟩ (dc_mk (by omega) (by omega) (by omega) (by omega) (by decide))
        obtain ⟨c0, c1, c2, c3, f0, f1, f2, f3⟩ := four_cells hW.gb
        have hX := hW.set (i := 1) (u := .slice (some ⟨wp.heap.size, 0, none⟩) 1 1) rfl (by have := hW.kw; omega) P hW.pb hW.pc
        clear hU P
        obtain ⟨k0, k1, k2, k3, g0, g1, g2, g3⟩ := four_cells hW.res
        have hgt := hW.gt
        have hne := Nat.ne_of_lt hgt
        have hne' := Nat.ne_of_gt hgt
        clear hW
        go_wp2
        exact bodyPost_ret (by simp [results, Try.results59, go_sem, *]) rfl hX.fin
  · have S0 := gs_begin (k := 2) hlt hR1 hG1 (by omega)
    clear hG1 hR1
    go_wp2_with fail
    refine (term_any R _ 6 5 _ (by omega) (by omega) (by omega) (by omega) (by omega) S0.rd).mono ?_
    rintro e x0 ⟨v, t0, q0, rfl, ho, _, hl, hD, hRr, hq0, hGg⟩
    have P0 := pl_of ho S0.size (by omega) (fun c hc => (hD c hc).dc)
    obtain ⟨xa0, xc0, rfl, _⟩ := shape3 ho
    have T0 := S0.grow hGg hRr
    obtain ⟨c0, c1, c2, c3, f0, f1, f2, f3⟩ := four_cells T0.gb
    have S1 := T0.set (i := 1) (u := .slice xa0 t0.length xc0) rfl (by omega) P0 T0.pb T0.pc
    clear ho hl hD hRr hGg P0 T0 S0
    go_wp2_with fail
    clear c0 c1 c2 c3 f0 f1 f2 f3
    refine (term_any R _ 6 5 _ (by omega) (by omega) (by omega) (by omega) (by omega) S1.rd).mono ?_
    rintro e x1 ⟨v, t1, q1, rfl, ho, _, hl, hD, hRr, hq1, hGg⟩
    have P1 := pl_of ho S1.size (by omega) (fun c hc => (hD c hc).dc)
    obtain ⟨xa1, xc1, rfl, _⟩ := shape3 ho
    have T1 := S1.grow hGg hRr
    obtain ⟨c0, c1, c2, c3, f0, f1, f2, f3⟩ := four_cells T1.gb
    have S2 := T1.set (i := 2) (u := .slice xa1 t1.length xc1) rfl (by omega) T1.pa P1 T1.pc
    clear ho hl hD hRr hGg P1 T1 S1
    go_wp2_with fail
    clear c0 c1 c2 c3 f0 f1 f2 f3
    have hS := S2
    refine (odd_any R _ n _ hn hn2 (by omega) hS.rd).mono ?_
    rintro e wo ⟨o, rfl, hRo, hGo⟩
    have hT := hS.grow hGo hRo
    clear hS hRo hGo
    cases o with
    | false =>
      have hW := hT
      have hX := hT
      obtain ⟨c0, c1, c2, c3, f0, f1, f2, f3⟩ := four_cells hT.gb
      clear hT
      obtain ⟨k0, k1, k2, k3, g0, g1, g2, g3⟩ := four_cells hW.res
      have hgt := hW.gt
      have hne := Nat.ne_of_lt hgt
      have hne' := Nat.ne_of_gt hgt
      clear hW
      go_wp2
      exact bodyPost_ret (by simp [results, Try.results59, go_sem, *]) rfl hX.fin
    | true =>
      go_wp2_with fail
      refine (pick_any R _ 5 _ (by omega) (by omega) (by omega) hT.rd).mono ?_
      rintro e wp ⟨y, rfl, y0, y1, hRp, hGp⟩
      have hU := hT.grow hGp hRp
      clear hT hRp hGp
      obtain rfl | rfl | rfl | rfl | rfl : y = 0 ∨ y = 1 ∨ y = 2 ∨ y = 3 ∨ y = 4 := by omega
      · go_wp2_with fail
        refine (pick_any R _ 5 _ (by omega) (by omega) (by omega) hU.rd).mono ?_
        rintro e wq ⟨z, rfl, z0, z1, hRq, hGq⟩
        have hV := hU.grow hGq hRq
        clear hU hRq hGq
        go_wp2_with fail
        refine (pick_any R _ 4 _ (by omega) (by omega) (by omega) (hV.alloc _).rd).mono ?_
        rintro e ws ⟨u, rfl, u0, u1, hRs, hGs⟩
        obtain ⟨j, rfl⟩ := Int.eq_ofNat_of_zero_le u0
        have hj : j < 4 := by omega
        obtain ⟨x, hx, hcx⟩ := lit4g z z0 z1 j hj
        have cx := cell_grown hGs (hcx wq) (by have := hV.lt; have := hV.size; omega)
        have hW := (hV.alloc _).grow hGs hRs
        obtain ⟨c0, c1, c2, c3, f0, f1, f2, f3⟩ := four_cells hW.gb
        have hX := hW.set (i := 0) (u := .int .i64 x) rfl hx hW.pa hW.pb hW.pc
        clear hV hGs hRs hcx hx
        obtain ⟨k0, k1, k2, k3, g0, g1, g2, g3⟩ := four_cells hW.res
        have hgt := hW.gt
        have hne := Nat.ne_of_lt hgt
        have hne' := Nat.ne_of_gt hgt
        clear hW
        go_wp2
        exact bodyPost_ret (by simp [results, Try.results59, go_sem, *]) rfl hX.fin
      · go_wp2_with fail
        refine (termOr_any R _ 1 _ (by omega) (by omega) (by omega) hU.rd).mono ?_
        rintro e ws ⟨v, t, q', rfl, ho, _, hl, hD, hRs, hq', hGs⟩
        have P := pl_of ho hU.size (by omega) hD
        obtain ⟨xa, xc, rfl, _⟩ := shape3 ho
        have hW := hU.grow hGs hRs
        obtain ⟨c0, c1, c2, c3, f0, f1, f2, f3⟩ := four_cells hW.gb
        have hX := hW.set (i := 1) (u := .slice xa t.length xc) rfl (by have := hW.kw; omega) P hW.pb hW.pc
        clear hU ho hl hD hRs hGs P
        obtain ⟨k0, k1, k2, k3, g0, g1, g2, g3⟩ := four_cells hW.res
        have hgt := hW.gt
        have hne := Nat.ne_of_lt hgt
        have hne' := Nat.ne_of_gt hgt
        clear hW
        go_wp2
        exact bodyPost_ret (by simp [results, Try.results59, go_sem, *]) rfl hX.fin
      · have hW := hU.alloc (.cells #[.int .i64 1, .int .i64 8, .string (ByteArray.mk #[])] 34)
        have P := pl_one w wp hU.size ⟨1, 8, ByteArray.mk #[]⟩ (dc_mk (by omega) (by omega) (by omega) (by omega) (by decide))
        obtain ⟨c0, c1, c2, c3, f0, f1, f2, f3⟩ := four_cells hW.gb
        have hX := hW.set (i := 2) (u := .slice (some ⟨wp.heap.size, 0, none⟩) 1 1) rfl (by have := hW.kw; omega) hW.pa P hW.pc
        clear hU P
        obtain ⟨k0, k1, k2, k3, g0, g1, g2, g3⟩ := four_cells hW.res
        have hgt := hW.gt
        have hne := Nat.ne_of_lt hgt
        have hne' := Nat.ne_of_gt hgt
        clear hW
        go_wp2
        exact bodyPost_ret (by simp [results, Try.results59, go_sem, *]) rfl hX.fin
      · have hW := hU.alloc (.cells #[.int .i64 2, .int .i64 0, .string (ByteArray.mk #[])] 34)
        have P := pl_one w wp hU.size ⟨2, 0, ByteArray.mk #[]⟩ (dc_mk (by omega) (by omega) (by omega) (by omega) (by decide))
        obtain ⟨c0, c1, c2, c3, f0, f1, f2, f3⟩ := four_cells hW.gb
        have hX := hW.set (i := 3) (u := .slice (some ⟨wp.heap.size, 0, none⟩) 1 1) rfl (by have := hW.kw; omega) hW.pa hW.pb P
        clear hU P
        obtain ⟨k0, k1, k2, k3, g0, g1, g2, g3⟩ := four_cells hW.res
        have hgt := hW.gt
        have hne := Nat.ne_of_lt hgt
        have hne' := Nat.ne_of_gt hgt
        clear hW
        go_wp2
        exact bodyPost_ret (by simp [results, Try.results59, go_sem, *]) rfl hX.fin
      · have hW := hU.alloc (.cells #[.int .i64 2, .int .i64 3, .string (ByteArray.mk #[])] 34)
        have P := pl_one w wp hU.size ⟨2, 3, ByteArray.mk #[]⟩ (dc_mk (by omega) (by omega) (by omega) (by omega) (by decide))
        obtain ⟨c0, c1, c2, c3, f0, f1, f2, f3⟩ := four_cells hW.gb
        have hX := hW.set (i := 1) (u := .slice (some ⟨wp.heap.size, 0, none⟩) 1 1) rfl (by have := hW.kw; omega) P hW.pb hW.pc
        clear hU P
        obtain ⟨k0, k1, k2, k3, g0, g1, g2, g3⟩ := four_cells hW.res
        have hgt := hW.gt
        have hne := Nat.ne_of_lt hgt
        have hne' := Nat.ne_of_gt hgt
        clear hW
        go_wp2
        exact bodyPost_ret (by simp [results, Try.results59, go_sem, *]) rfl hX.fin
  · have S0 := gs_begin (k := 3) hlt hR1 hG1 (by omega)
    clear hG1 hR1
    go_wp2_with fail
    have hS := S0
    refine (odd_any R _ n _ hn hn2 (by omega) hS.rd).mono ?_
    rintro e wo ⟨o, rfl, hRo, hGo⟩
    have hT := hS.grow hGo hRo
    clear hS hRo hGo
    cases o with
    | false =>
      have hW := hT
      have hX := hT
      obtain ⟨c0, c1, c2, c3, f0, f1, f2, f3⟩ := four_cells hT.gb
      clear hT
      obtain ⟨k0, k1, k2, k3, g0, g1, g2, g3⟩ := four_cells hW.res
      have hgt := hW.gt
      have hne := Nat.ne_of_lt hgt
      have hne' := Nat.ne_of_gt hgt
      clear hW
      go_wp2
      exact bodyPost_ret (by simp [results, Try.results59, go_sem, *]) rfl hX.fin
    | true =>
      go_wp2_with fail
      refine (pick_any R _ 5 _ (by omega) (by omega) (by omega) hT.rd).mono ?_
      rintro e wp ⟨y, rfl, y0, y1, hRp, hGp⟩
      have hU := hT.grow hGp hRp
      clear hT hRp hGp
      obtain rfl | rfl | rfl | rfl | rfl : y = 0 ∨ y = 1 ∨ y = 2 ∨ y = 3 ∨ y = 4 := by omega
      · go_wp2_with fail
        refine (pick_any R _ 5 _ (by omega) (by omega) (by omega) hU.rd).mono ?_
        rintro e wq ⟨z, rfl, z0, z1, hRq, hGq⟩
        have hV := hU.grow hGq hRq
        clear hU hRq hGq
        go_wp2_with fail
        refine (pick_any R _ 4 _ (by omega) (by omega) (by omega) (hV.alloc _).rd).mono ?_
        rintro e ws ⟨u, rfl, u0, u1, hRs, hGs⟩
        obtain ⟨j, rfl⟩ := Int.eq_ofNat_of_zero_le u0
        have hj : j < 4 := by omega
        obtain ⟨x, hx, hcx⟩ := lit4g z z0 z1 j hj
        have cx := cell_grown hGs (hcx wq) (by have := hV.lt; have := hV.size; omega)
        have hW := (hV.alloc _).grow hGs hRs
        obtain ⟨c0, c1, c2, c3, f0, f1, f2, f3⟩ := four_cells hW.gb
        have hX := hW.set (i := 0) (u := .int .i64 x) rfl hx hW.pa hW.pb hW.pc
        clear hV hGs hRs hcx hx
        obtain ⟨k0, k1, k2, k3, g0, g1, g2, g3⟩ := four_cells hW.res
        have hgt := hW.gt
        have hne := Nat.ne_of_lt hgt
        have hne' := Nat.ne_of_gt hgt
        clear hW
        go_wp2
        exact bodyPost_ret (by simp [results, Try.results59, go_sem, *]) rfl hX.fin
      · go_wp2_with fail
        refine (termOr_any R _ 1 _ (by omega) (by omega) (by omega) hU.rd).mono ?_
        rintro e ws ⟨v, t, q', rfl, ho, _, hl, hD, hRs, hq', hGs⟩
        have P := pl_of ho hU.size (by omega) hD
        obtain ⟨xa, xc, rfl, _⟩ := shape3 ho
        have hW := hU.grow hGs hRs
        obtain ⟨c0, c1, c2, c3, f0, f1, f2, f3⟩ := four_cells hW.gb
        have hX := hW.set (i := 1) (u := .slice xa t.length xc) rfl (by have := hW.kw; omega) P hW.pb hW.pc
        clear hU ho hl hD hRs hGs P
        obtain ⟨k0, k1, k2, k3, g0, g1, g2, g3⟩ := four_cells hW.res
        have hgt := hW.gt
        have hne := Nat.ne_of_lt hgt
        have hne' := Nat.ne_of_gt hgt
        clear hW
        go_wp2
        exact bodyPost_ret (by simp [results, Try.results59, go_sem, *]) rfl hX.fin
      · have hW := hU.alloc (.cells #[.int .i64 1, .int .i64 8, .string (ByteArray.mk #[])] 34)
        have P := pl_one w wp hU.size ⟨1, 8, ByteArray.mk #[]⟩ (dc_mk (by omega) (by omega) (by omega) (by omega) (by decide))
        obtain ⟨c0, c1, c2, c3, f0, f1, f2, f3⟩ := four_cells hW.gb
        have hX := hW.set (i := 2) (u := .slice (some ⟨wp.heap.size, 0, none⟩) 1 1) rfl (by have := hW.kw; omega) hW.pa P hW.pc
        clear hU P
        obtain ⟨k0, k1, k2, k3, g0, g1, g2, g3⟩ := four_cells hW.res
        have hgt := hW.gt
        have hne := Nat.ne_of_lt hgt
        have hne' := Nat.ne_of_gt hgt
        clear hW
        go_wp2
        exact bodyPost_ret (by simp [results, Try.results59, go_sem, *]) rfl hX.fin
      · have hW := hU.alloc (.cells #[.int .i64 2, .int .i64 0, .string (ByteArray.mk #[])] 34)
        have P := pl_one w wp hU.size ⟨2, 0, ByteArray.mk #[]⟩ (dc_mk (by omega) (by omega) (by omega) (by omega) (by decide))
        obtain ⟨c0, c1, c2, c3, f0, f1, f2, f3⟩ := four_cells hW.gb
        have hX := hW.set (i := 3) (u := .slice (some ⟨wp.heap.size, 0, none⟩) 1 1) rfl (by have := hW.kw; omega) hW.pa hW.pb P
        clear hU P
        obtain ⟨k0, k1, k2, k3, g0, g1, g2, g3⟩ := four_cells hW.res
        have hgt := hW.gt
        have hne := Nat.ne_of_lt hgt
        have hne' := Nat.ne_of_gt hgt
        clear hW
        go_wp2
        exact bodyPost_ret (by simp [results, Try.results59, go_sem, *]) rfl hX.fin
      · have hW := hU.alloc (.cells #[.int .i64 2, .int .i64 3, .string (ByteArray.mk #[])] 34)
        have P := pl_one w wp hU.size ⟨2, 3, ByteArray.mk #[]⟩ (dc_mk (by omega) (by omega) (by omega) (by omega) (by decide))
        obtain ⟨c0, c1, c2, c3, f0, f1, f2, f3⟩ := four_cells hW.gb
        have hX := hW.set (i := 1) (u := .slice (some ⟨wp.heap.size, 0, none⟩) 1 1) rfl (by have := hW.kw; omega) P hW.pb hW.pc
        clear hU P
        obtain ⟨k0, k1, k2, k3, g0, g1, g2, g3⟩ := four_cells hW.res
        have hgt := hW.gt
        have hne := Nat.ne_of_lt hgt
        have hne' := Nat.ne_of_gt hgt
        clear hW
        go_wp2
        exact bodyPost_ret (by simp [results, Try.results59, go_sem, *]) rfl hX.fin
  · have S0 := gs_begin (k := 4) hlt hR1 hG1 (by omega)
    clear hG1 hR1
    go_wp2_with fail
    refine (term_any R _ 6 5 _ (by omega) (by omega) (by omega) (by omega) (by omega) S0.rd).mono ?_
    rintro e x0 ⟨v, t0, q0, rfl, ho, _, hl, hD, hRr, hq0, hGg⟩
    have P0 := pl_of ho S0.size (by omega) (fun c hc => (hD c hc).dc)
    obtain ⟨xa0, xc0, rfl, _⟩ := shape3 ho
    have T0 := S0.grow hGg hRr
    obtain ⟨c0, c1, c2, c3, f0, f1, f2, f3⟩ := four_cells T0.gb
    have S1 := T0.set (i := 1) (u := .slice xa0 t0.length xc0) rfl (by omega) P0 T0.pb T0.pc
    clear ho hl hD hRr hGg P0 T0 S0
    go_wp2_with fail
    clear c0 c1 c2 c3 f0 f1 f2 f3
    refine (term_any R _ 6 5 _ (by omega) (by omega) (by omega) (by omega) (by omega) S1.rd).mono ?_
    rintro e x1 ⟨v, t1, q1, rfl, ho, _, hl, hD, hRr, hq1, hGg⟩
    have P1 := pl_of ho S1.size (by omega) (fun c hc => (hD c hc).dc)
    obtain ⟨xa1, xc1, rfl, _⟩ := shape3 ho
    have T1 := S1.grow hGg hRr
    obtain ⟨c0, c1, c2, c3, f0, f1, f2, f3⟩ := four_cells T1.gb
    have S2 := T1.set (i := 2) (u := .slice xa1 t1.length xc1) rfl (by omega) T1.pa P1 T1.pc
    clear ho hl hD hRr hGg P1 T1 S1
    go_wp2_with fail
    clear c0 c1 c2 c3 f0 f1 f2 f3
    have hS := S2
    refine (odd_any R _ n _ hn hn2 (by omega) hS.rd).mono ?_
    rintro e wo ⟨o, rfl, hRo, hGo⟩
    have hT := hS.grow hGo hRo
    clear hS hRo hGo
    cases o with
    | false =>
      have hW := hT
      have hX := hT
      obtain ⟨c0, c1, c2, c3, f0, f1, f2, f3⟩ := four_cells hT.gb
      clear hT
      obtain ⟨k0, k1, k2, k3, g0, g1, g2, g3⟩ := four_cells hW.res
      have hgt := hW.gt
      have hne := Nat.ne_of_lt hgt
      have hne' := Nat.ne_of_gt hgt
      clear hW
      go_wp2
      exact bodyPost_ret (by simp [results, Try.results59, go_sem, *]) rfl hX.fin
    | true =>
      go_wp2_with fail
      refine (pick_any R _ 5 _ (by omega) (by omega) (by omega) hT.rd).mono ?_
      rintro e wp ⟨y, rfl, y0, y1, hRp, hGp⟩
      have hU := hT.grow hGp hRp
      clear hT hRp hGp
      obtain rfl | rfl | rfl | rfl | rfl : y = 0 ∨ y = 1 ∨ y = 2 ∨ y = 3 ∨ y = 4 := by omega
      · go_wp2_with fail
        refine (pick_any R _ 5 _ (by omega) (by omega) (by omega) hU.rd).mono ?_
        rintro e wq ⟨z, rfl, z0, z1, hRq, hGq⟩
        have hV := hU.grow hGq hRq
        clear hU hRq hGq
        go_wp2_with fail
        refine (pick_any R _ 4 _ (by omega) (by omega) (by omega) (hV.alloc _).rd).mono ?_
        rintro e ws ⟨u, rfl, u0, u1, hRs, hGs⟩
        obtain ⟨j, rfl⟩ := Int.eq_ofNat_of_zero_le u0
        have hj : j < 4 := by omega
        obtain ⟨x, hx, hcx⟩ := lit4g z z0 z1 j hj
        have cx := cell_grown hGs (hcx wq) (by have := hV.lt; have := hV.size; omega)
        have hW := (hV.alloc _).grow hGs hRs
        obtain ⟨c0, c1, c2, c3, f0, f1, f2, f3⟩ := four_cells hW.gb
        have hX := hW.set (i := 0) (u := .int .i64 x) rfl hx hW.pa hW.pb hW.pc
        clear hV hGs hRs hcx hx
        obtain ⟨k0, k1, k2, k3, g0, g1, g2, g3⟩ := four_cells hW.res
        have hgt := hW.gt
        have hne := Nat.ne_of_lt hgt
        have hne' := Nat.ne_of_gt hgt
        clear hW
        go_wp2
        exact bodyPost_ret (by simp [results, Try.results59, go_sem, *]) rfl hX.fin
      · go_wp2_with fail
        refine (termOr_any R _ 1 _ (by omega) (by omega) (by omega) hU.rd).mono ?_
        rintro e ws ⟨v, t, q', rfl, ho, _, hl, hD, hRs, hq', hGs⟩
        have P := pl_of ho hU.size (by omega) hD
        obtain ⟨xa, xc, rfl, _⟩ := shape3 ho
        have hW := hU.grow hGs hRs
        obtain ⟨c0, c1, c2, c3, f0, f1, f2, f3⟩ := four_cells hW.gb
        have hX := hW.set (i := 1) (u := .slice xa t.length xc) rfl (by have := hW.kw; omega) P hW.pb hW.pc
        clear hU ho hl hD hRs hGs P
        obtain ⟨k0, k1, k2, k3, g0, g1, g2, g3⟩ := four_cells hW.res
        have hgt := hW.gt
        have hne := Nat.ne_of_lt hgt
        have hne' := Nat.ne_of_gt hgt
        clear hW
        go_wp2
        exact bodyPost_ret (by simp [results, Try.results59, go_sem, *]) rfl hX.fin
      · have hW := hU.alloc (.cells #[.int .i64 1, .int .i64 8, .string (ByteArray.mk #[])] 34)
        have P := pl_one w wp hU.size ⟨1, 8, ByteArray.mk #[]⟩ (dc_mk (by omega) (by omega) (by omega) (by omega) (by decide))
        obtain ⟨c0, c1, c2, c3, f0, f1, f2, f3⟩ := four_cells hW.gb
        have hX := hW.set (i := 2) (u := .slice (some ⟨wp.heap.size, 0, none⟩) 1 1) rfl (by have := hW.kw; omega) hW.pa P hW.pc
        clear hU P
        obtain ⟨k0, k1, k2, k3, g0, g1, g2, g3⟩ := four_cells hW.res
        have hgt := hW.gt
        have hne := Nat.ne_of_lt hgt
        have hne' := Nat.ne_of_gt hgt
        clear hW
        go_wp2
        exact bodyPost_ret (by simp [results, Try.results59, go_sem, *]) rfl hX.fin
      · have hW := hU.alloc (.cells #[.int .i64 2, .int .i64 0, .string (ByteArray.mk #[])] 34)
        have P := pl_one w wp hU.size ⟨2, 0, ByteArray.mk #[]⟩ (dc_mk (by omega) (by omega) (by omega) (by omega) (by decide))
        obtain ⟨c0, c1, c2, c3, f0, f1, f2, f3⟩ := four_cells hW.gb
        have hX := hW.set (i := 3) (u := .slice (some ⟨wp.heap.size, 0, none⟩) 1 1) rfl (by have := hW.kw; omega) hW.pa hW.pb P
        clear hU P
        obtain ⟨k0, k1, k2, k3, g0, g1, g2, g3⟩ := four_cells hW.res
        have hgt := hW.gt
        have hne := Nat.ne_of_lt hgt
        have hne' := Nat.ne_of_gt hgt
        clear hW
        go_wp2
        exact bodyPost_ret (by simp [results, Try.results59, go_sem, *]) rfl hX.fin
      · have hW := hU.alloc (.cells #[.int .i64 2, .int .i64 3, .string (ByteArray.mk #[])] 34)
        have P := pl_one w wp hU.size ⟨2, 3, ByteArray.mk #[]⟩ (dc_mk (by omega) (by omega) (by omega) (by omega) (by decide))
        obtain ⟨c0, c1, c2, c3, f0, f1, f2, f3⟩ := four_cells hW.gb
        have hX := hW.set (i := 1) (u := .slice (some ⟨wp.heap.size, 0, none⟩) 1 1) rfl (by have := hW.kw; omega) P hW.pb hW.pc
        clear hU P
        obtain ⟨k0, k1, k2, k3, g0, g1, g2, g3⟩ := four_cells hW.res
        have hgt := hW.gt
        have hne := Nat.ne_of_lt hgt
        have hne' := Nat.ne_of_gt hgt
        clear hW
        go_wp2
        exact bodyPost_ret (by simp [results, Try.results59, go_sem, *]) rfl hX.fin
  · have S0 := gs_begin (k := 5) hlt hR1 hG1 (by omega)
    clear hG1 hR1
    go_wp2_with fail
    refine (term_any R _ 3 5 _ (by omega) (by omega) (by omega) (by omega) (by omega) S0.rd).mono ?_
    rintro e x0 ⟨v, t0, q0, rfl, ho, _, hl, hD, hRr, hq0, hGg⟩
    have P0 := pl_of ho S0.size (by omega) (fun c hc => (hD c hc).dc)
    obtain ⟨xa0, xc0, rfl, _⟩ := shape3 ho
    have T0 := S0.grow hGg hRr
    obtain ⟨c0, c1, c2, c3, f0, f1, f2, f3⟩ := four_cells T0.gb
    have S1 := T0.set (i := 1) (u := .slice xa0 t0.length xc0) rfl (by omega) P0 T0.pb T0.pc
    clear ho hl hD hRr hGg P0 T0 S0
    go_wp2_with fail
    clear c0 c1 c2 c3 f0 f1 f2 f3
    refine (term_any R _ 3 5 _ (by omega) (by omega) (by omega) (by omega) (by omega) S1.rd).mono ?_
    rintro e x1 ⟨v, t1, q1, rfl, ho, _, hl, hD, hRr, hq1, hGg⟩
    have P1 := pl_of ho S1.size (by omega) (fun c hc => (hD c hc).dc)
    obtain ⟨xa1, xc1, rfl, _⟩ := shape3 ho
    have T1 := S1.grow hGg hRr
    obtain ⟨c0, c1, c2, c3, f0, f1, f2, f3⟩ := four_cells T1.gb
    have S2 := T1.set (i := 2) (u := .slice xa1 t1.length xc1) rfl (by omega) T1.pa P1 T1.pc
    clear ho hl hD hRr hGg P1 T1 S1
    go_wp2_with fail
    clear c0 c1 c2 c3 f0 f1 f2 f3
    refine (term_any R _ 3 5 _ (by omega) (by omega) (by omega) (by omega) (by omega) S2.rd).mono ?_
    rintro e x2 ⟨v, t2, q2, rfl, ho, _, hl, hD, hRr, hq2, hGg⟩
    have P2 := pl_of ho S2.size (by omega) (fun c hc => (hD c hc).dc)
    obtain ⟨xa2, xc2, rfl, _⟩ := shape3 ho
    have T2 := S2.grow hGg hRr
    obtain ⟨c0, c1, c2, c3, f0, f1, f2, f3⟩ := four_cells T2.gb
    have S3 := T2.set (i := 3) (u := .slice xa2 t2.length xc2) rfl (by omega) T2.pa T2.pb P2
    clear ho hl hD hRr hGg P2 T2 S2
    go_wp2_with fail
    clear c0 c1 c2 c3 f0 f1 f2 f3
    have hS := S3
    refine (odd_any R _ n _ hn hn2 (by omega) hS.rd).mono ?_
    rintro e wo ⟨o, rfl, hRo, hGo⟩
    have hT := hS.grow hGo hRo
    clear hS hRo hGo
    cases o with
    | false =>
      have hW := hT
      have hX := hT
      obtain ⟨c0, c1, c2, c3, f0, f1, f2, f3⟩ := four_cells hT.gb
      clear hT
      obtain ⟨k0, k1, k2, k3, g0, g1, g2, g3⟩ := four_cells hW.res
      have hgt := hW.gt
      have hne := Nat.ne_of_lt hgt
      have hne' := Nat.ne_of_gt hgt
      clear hW
      go_wp2
      exact bodyPost_ret (by simp [results, Try.results59, go_sem, *]) rfl hX.fin
    | true =>
      go_wp2_with fail
      refine (pick_any R _ 5 _ (by omega) (by omega) (by omega) hT.rd).mono ?_
      rintro e wp ⟨y, rfl, y0, y1, hRp, hGp⟩
      have hU := hT.grow hGp hRp
      clear hT hRp hGp
      obtain rfl | rfl | rfl | rfl | rfl : y = 0 ∨ y = 1 ∨ y = 2 ∨ y = 3 ∨ y = 4 := by omega
      · go_wp2_with fail
        refine (pick_any R _ 5 _ (by omega) (by omega) (by omega) hU.rd).mono ?_
        rintro e wq ⟨z, rfl, z0, z1, hRq, hGq⟩
        have hV := hU.grow hGq hRq
        clear hU hRq hGq
        go_wp2_with fail
        refine (pick_any R _ 4 _ (by omega) (by omega) (by omega) (hV.alloc _).rd).mono ?_
        rintro e ws ⟨u, rfl, u0, u1, hRs, hGs⟩
        obtain ⟨j, rfl⟩ := Int.eq_ofNat_of_zero_le u0
        have hj : j < 4 := by omega
        obtain ⟨x, hx, hcx⟩ := lit4g z z0 z1 j hj
        have cx := cell_grown hGs (hcx wq) (by have := hV.lt; have := hV.size; omega)
        have hW := (hV.alloc _).grow hGs hRs
        obtain ⟨c0, c1, c2, c3, f0, f1, f2, f3⟩ := four_cells hW.gb
        have hX := hW.set (i := 0) (u := .int .i64 x) rfl hx hW.pa hW.pb hW.pc
        clear hV hGs hRs hcx hx
        obtain ⟨k0, k1, k2, k3, g0, g1, g2, g3⟩ := four_cells hW.res
        have hgt := hW.gt
        have hne := Nat.ne_of_lt hgt
        have hne' := Nat.ne_of_gt hgt
        clear hW
        go_wp2
        exact bodyPost_ret (by simp [results, Try.results59, go_sem, *]) rfl hX.fin
      · go_wp2_with fail
        refine (termOr_any R _ 1 _ (by omega) (by omega) (by omega) hU.rd).mono ?_
        rintro e ws ⟨v, t, q', rfl, ho, _, hl, hD, hRs, hq', hGs⟩
        have P := pl_of ho hU.size (by omega) hD
        obtain ⟨xa, xc, rfl, _⟩ := shape3 ho
        have hW := hU.grow hGs hRs
        obtain ⟨c0, c1, c2, c3, f0, f1, f2, f3⟩ := four_cells hW.gb
        have hX := hW.set (i := 1) (u := .slice xa t.length xc) rfl (by have := hW.kw; omega) P hW.pb hW.pc
        clear hU ho hl hD hRs hGs P
        obtain ⟨k0, k1, k2, k3, g0, g1, g2, g3⟩ := four_cells hW.res
        have hgt := hW.gt
        have hne := Nat.ne_of_lt hgt
        have hne' := Nat.ne_of_gt hgt
        clear hW
        go_wp2
        exact bodyPost_ret (by simp [results, Try.results59, go_sem, *]) rfl hX.fin
      · have hW := hU.alloc (.cells #[.int .i64 1, .int .i64 8, .string (ByteArray.mk #[])] 34)
        have P := pl_one w wp hU.size ⟨1, 8, ByteArray.mk #[]⟩ (dc_mk (by omega) (by omega) (by omega) (by omega) (by decide))
        obtain ⟨c0, c1, c2, c3, f0, f1, f2, f3⟩ := four_cells hW.gb
        have hX := hW.set (i := 2) (u := .slice (some ⟨wp.heap.size, 0, none⟩) 1 1) rfl (by have := hW.kw; omega) hW.pa P hW.pc
        clear hU P
        obtain ⟨k0, k1, k2, k3, g0, g1, g2, g3⟩ := four_cells hW.res
        have hgt := hW.gt
        have hne := Nat.ne_of_lt hgt
        have hne' := Nat.ne_of_gt hgt
        clear hW
        go_wp2
        exact bodyPost_ret (by simp [results, Try.results59, go_sem, *]) rfl hX.fin
      · have hW := hU.alloc (.cells #[.int .i64 2, .int .i64 0, .string (ByteArray.mk #[])] 34)
        have P := pl_one w wp hU.size ⟨2, 0, ByteArray.mk #[]⟩ (dc_mk (by omega) (by omega) (by omega) (by omega) (by decide))
        obtain ⟨c0, c1, c2, c3, f0, f1, f2, f3⟩ := four_cells hW.gb
        have hX := hW.set (i := 3) (u := .slice (some ⟨wp.heap.size, 0, none⟩) 1 1) rfl (by have := hW.kw; omega) hW.pa hW.pb P
        clear hU P
        obtain ⟨k0, k1, k2, k3, g0, g1, g2, g3⟩ := four_cells hW.res
        have hgt := hW.gt
        have hne := Nat.ne_of_lt hgt
        have hne' := Nat.ne_of_gt hgt
        clear hW
        go_wp2
        exact bodyPost_ret (by simp [results, Try.results59, go_sem, *]) rfl hX.fin
      · have hW := hU.alloc (.cells #[.int .i64 2, .int .i64 3, .string (ByteArray.mk #[])] 34)
        have P := pl_one w wp hU.size ⟨2, 3, ByteArray.mk #[]⟩ (dc_mk (by omega) (by omega) (by omega) (by omega) (by decide))
        obtain ⟨c0, c1, c2, c3, f0, f1, f2, f3⟩ := four_cells hW.gb
        have hX := hW.set (i := 1) (u := .slice (some ⟨wp.heap.size, 0, none⟩) 1 1) rfl (by have := hW.kw; omega) P hW.pb hW.pc
        clear hU P
        obtain ⟨k0, k1, k2, k3, g0, g1, g2, g3⟩ := four_cells hW.res
        have hgt := hW.gt
        have hne := Nat.ne_of_lt hgt
        have hne' := Nat.ne_of_gt hgt
        clear hW
        go_wp2
        exact bodyPost_ret (by simp [results, Try.results59, go_sem, *]) rfl hX.fin
end Go.Proofs.Ytmiofbifffnocaa
