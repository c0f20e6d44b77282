/- The walk of l21Turn: bytes with one put in, taken out or turned. -/
import Derived.Test.YtjinbinnjpjniaaDoorQW6W14YB5
import Derived.Test.YtjinbinnjpjniaaDoorQD6
import Derived.Deep.RegionWith
import Derived.BigQuiet
namespace Go.Proofs.YtjinbinnjpjniaaDoor
open Go.RowKit
set_option linter.unusedVariables false
set_option linter.unusedSimpArgs false
attribute [-go_sem] Go.Builtin.append_

/-- The run of an append of bytes that lie somewhere, maybe none. -/
theorem app_any (w : World) (base : Nat) (v : Value) (z y : List Int) (b off cap : Nat) (hO : OwnY w base v z) (hb : base ≤ w.heap.size) (hz : z.length + y.length ≤ 4194304) (hA : AtY w b off y) :
    ∃ v' w', (Builtin.append_ #[22, 22] 22 #[v, .slice (some ⟨b, off, none⟩) y.length cap]).run Tryd.prog w = .ok v' w' ∧ OwnY w' base v' (z ++ y) ∧ w.grownBy w' v.ownBlock := by
  obtain ⟨i0, hi, hz0, hz1, hz2⟩ := info_parts Tryd.infoByte
  obtain ⟨v', w', hr, ho, hg, _⟩ := run_append_own (P := Tryd.prog) w base 22 22 5 i0 _ 1 1 Tryd.underlying22 hi hz0 hz1 hz2 rfl (by decide) v z.length _ hO ⟨b, off, none⟩ y.length cap (bys y) (by simp [bys]) (fun j u hj => by
    have hjl : j < y.length := by
      have := (List.getElem?_eq_some_iff.1 hj).1
      simpa [bys] using this
    rw [bys_get y j hjl] at hj
    have e : (⟨b, off, none⟩ : Addr).add j = ⟨b, off + j, none⟩ := by unfold Addr.add; split <;> simp_all
    rw [e, hA j hjl]
    exact hj) (bys_one y) (by unfold maxLen; omega) (by omega) hb
  refine ⟨v', w', hr, ?_, hg⟩
  unfold OwnY
  rw [List.length_append, bys_app]
  exact ho

/-- The run of an append of what is left of bytes behind a place. -/
theorem app_drop (w : World) (base : Nat) (v : Value) (z y : List Int) (g cap m : Nat) (hO : OwnY w base v z) (hb : base ≤ w.heap.size) (hz : z.length + y.length ≤ 4194304) (hA : AtY w g 0 y) (hm : m ≤ y.length) (hc : y.length ≤ cap) :
    ∃ v' w', (Builtin.append_ #[22, 22] 22 #[v, .slice (if cap = m then some ⟨g, 0, none⟩ else some ⟨g, m, none⟩) (y.length - m) (cap - m)]).run Tryd.prog w = .ok v' w' ∧ OwnY w' base v' (z ++ y.drop m) ∧ w.grownBy w' v.ownBlock := by
  by_cases h : cap = m
  · have e : y.drop m = [] := List.drop_eq_nil_of_le (by omega)
    have h0 : AtY w g 0 (y.drop m) := by rw [e]; exact fun i hi => by simp at hi
    obtain ⟨v', w', r, o, gr⟩ := app_any w base v z (y.drop m) g 0 (cap - m) hO hb (by simp; omega) h0
    rw [if_pos h]
    have hl : (y.drop m).length = y.length - m := by simp
    rw [hl] at r
    exact ⟨v', w', r, o, gr⟩
  · have h0 := hA.drop m
    rw [Nat.zero_add] at h0
    obtain ⟨v', w', r, o, gr⟩ := app_any w base v z (y.drop m) g m (cap - m) hO hb (by simp; omega) h0
    rw [if_neg h]
    have hl : (y.drop m).length = y.length - m := by simp
    rw [hl] at r
    exact ⟨v', w', r, o, gr⟩

/-- What is written into new memory leaves what was there. -/
theorem grown_row {w W w5 : World} {R : Nat} {r : Option Nat} (h : w.grownBy W (some R)) (hg : W.grownBy w5 r) (hv : ∀ k, r = some k → w.heap.size ≤ k) : w.grownBy w5 (some R) :=
  ⟨hg.os.trans h.os, hg.tape.trans h.tape, hg.output.trans h.output, Nat.le_trans h.size hg.size, fun k hk hn => (hg.block k (Nat.lt_of_lt_of_le hk h.size) (fun e => by have := hv k e.symm; omega)).trans (h.block k hk hn)⟩
theorem grown_allocs {w W : World} {R : Nat} (h : w.grownBy W (some R)) (o : Obj) : w.grownBy (W.alloc o).drew (some R) := by
  have := grown_trans h (grown_alloc W o (some R))
  exact ⟨this.os, this.tape, this.output, this.size, this.block⟩
/-- A row of bytes elsewhere is as it was. -/
theorem atY_grown {w w' : World} {b off : Nat} {z : List Int} {r : Option Nat} (h : AtY w b off z) (hg : w.grownBy w' r) (hr : ∀ k, r = some k → b ≠ k) : AtY w' b off z := fun i hi =>
  (World.cell?_of_block (a := ⟨b, off + i, none⟩) (hg.block b (World.block_lt_of_cell? w ⟨b, _, none⟩ (h i hi)) (fun e => hr b e.symm rfl))).trans (h i hi)

/-- What l21Turn leaves. -/
def Turned (w : World) (R p n : Nat) (e : Ending) (w' : World) : Prop := ∃ v y p', e = .returned v ∧ OwnY w' w.heap.size v y ∧ ByL y ∧ y.length ≤ n ∧ Rd w' R p' ∧ p' ≤ p + 8 ∧ w.grownBy w' (some R)
theorem turned_mk {w w' : World} {R p n p' : Nat} {v : Value} {y : List Int} (h1 : OwnY w' w.heap.size v y) (h2 : ByL y) (h3 : y.length ≤ n) (h4 : Rd w' R p') (h5 : p' ≤ p + 8) (h6 : w.grownBy w' (some R)) : Turned w R p n (.returned v) w' := ⟨v, y, p', rfl, h1, h2, h3, h4, h5, h6⟩

/-- What is there when bytes are put together anew. -/
structure Mk (w : World) (R p g : Nat) (z : List Int) (U : World) : Prop where
  gr : w.grownBy U (some R)
  rd : Rd U R p
  at_ : AtY U g 0 z
theorem Mk.grown {w U U' : World} {R p g : Nat} {z : List Int} {r : Option Nat} (h : Mk w R p g z U) (hg : U.grownBy U' r) (hr : ∀ k, r = some k → w.heap.size ≤ k ∧ k ≠ g ∧ R < k) : Mk w R p g z U' :=
  ⟨grown_row h.gr hg (fun k e => (hr k e).1), h.rd.grown hg (fun k e => (hr k e).2.2), atY_grown h.at_ hg (fun k e => fun e' => (hr k e).2.1 e'.symm)⟩
theorem Mk.alloc {w U : World} {R p g : Nat} {z : List Int} (h : Mk w R p g z U) (o : Obj) : Mk w R p g z (U.alloc o) :=
  h.grown (r := none) (grown_below (cell_below _ _)) (fun k e => by cases e)

theorem tail1 {w U : World} {R p g cap k : Nat} {z z1 : List Int} {v1 : Value} {x : Int} (h : Mk w R p g z U) (hRw : R < w.heap.size) (hgw : g < w.heap.size) (ho : OwnY U w.heap.size v1 z1) (hz1 : ByL z1) (hl1 : z1.length = k) (hx : 0 ≤ x ∧ x ≤ 255) (hy : ByL z) (hz : z.length ≤ 600) (hk : k < z.length) (hc : z.length ≤ cap) (hp : p ≤ p + 8) {q : Nat} (hpq : p ≤ q + 8) :
    ∃ v2 U2 v3 U3, (Builtin.append_ #[22, 22] 22 #[v1, .slice (some ⟨U.heap.size, 0, none⟩) 1 1]).run Tryd.prog (U.alloc (.cells #[.int .u8 x] 5)) = .ok v2 U2 ∧
      (Builtin.append_ #[22, 22] 22 #[v2, .slice (some ⟨g, k, none⟩) (z.length - k) (cap - k)]).run Tryd.prog U2 = .ok v3 U3 ∧ Hid (Turned w R q 601 (.returned v3) U3) := by
  have hs := h.gr.size
  obtain ⟨v2, U2, r2, o2, g2⟩ := app_one U w.heap.size v1 z1 x ho hs (by omega)
  have h2 : Mk w R p g z U2 := h.grown g2.1 (fun j e => by have := (World.ownsRow.lt ho j e).1; omega)
  obtain ⟨v3, U3, r3, o3, g3⟩ := app_drop U2 w.heap.size v2 _ z g cap k o2 h2.gr.size (by simp; omega) h2.at_ (by omega) hc
  rw [if_neg (by omega)] at r3
  have h3 : Mk w R p g z U3 := h2.grown g3 (fun j e => by have := (World.ownsRow.lt o2 j e).1; omega)
  exact ⟨v2, U2, v3, U3, r2, r3, turned_mk o3 ((hz1.app (ByL.one hx)).app (hy.drop k)) (by simp; omega) h3.rd hpq h3.gr⟩
theorem tail2 {w Y : World} {R p g cap k b0 b1 : Nat} {z : List Int} {x : Int} (h : Mk w R p g z Y) (hRw : R < w.heap.size) (hgw : g < w.heap.size) (ho : OwnY Y w.heap.size (.slice (some ⟨b0, 0, none⟩) 0 0) []) (hx1 : AtY Y b1 0 [x]) (hb : b1 ≠ b0) (hb1 : w.heap.size ≤ b1) (hx : 0 ≤ x ∧ x ≤ 255) (hy : ByL z) (hz : z.length ≤ 600) (hk : k < z.length) (hc : z.length ≤ cap) {q : Nat} (hpq : p ≤ q + 8) :
    ∃ v1 Y1 v2 Y2 v3 Y3, (Builtin.append_ #[22, 22] 22 #[.slice (some ⟨b0, 0, none⟩) 0 0, .slice (some ⟨g, 0, none⟩) k cap]).run Tryd.prog Y = .ok v1 Y1 ∧
      (Builtin.append_ #[22, 22] 22 #[v1, .slice (some ⟨b1, 0, none⟩) 1 1]).run Tryd.prog Y1 = .ok v2 Y2 ∧
      (Builtin.append_ #[22, 22] 22 #[v2, .slice (some ⟨g, k, none⟩) (z.length - k) (cap - k)]).run Tryd.prog Y2 = .ok v3 Y3 ∧ Hid (Turned w R q 601 (.returned v3) Y3) := by
  have hs := h.gr.size
  have hl1 : (z.take k).length = k := by simp; omega
  obtain ⟨v1, Y1, r1, o1, g1⟩ := app_any Y w.heap.size _ [] (z.take k) g 0 cap ho hs (by simp; omega) (h.at_.take k)
  rw [hl1] at r1
  have h1 : Mk w R p g z Y1 := h.grown g1 (fun j e => by have := (World.ownsRow.lt ho j e).1; omega)
  have hx2 : AtY Y1 b1 0 [x] := atY_grown hx1 g1 (fun j e => by have e' : b0 = j := (by simpa [Value.ownBlock] using e); omega)
  obtain ⟨v2, Y2, r2, o2, g2⟩ := app_any Y1 w.heap.size v1 _ [x] b1 0 1 o1 h1.gr.size (by simp; omega) hx2
  have h2 : Mk w R p g z Y2 := h1.grown g2 (fun j e => by have := (World.ownsRow.lt o1 j e).1; omega)
  obtain ⟨v3, Y3, r3, o3, g3⟩ := app_drop Y2 w.heap.size v2 _ z g cap k o2 h2.gr.size (by simp; omega) h2.at_ (by omega) hc
  rw [if_neg (by omega)] at r3
  have h3 : Mk w R p g z Y3 := h2.grown g3 (fun j e => by have := (World.ownsRow.lt o2 j e).1; omega)
  exact ⟨v1, Y1, v2, Y2, v3, Y3, r1, r2, r3, turned_mk o3 (by rw [List.nil_append]; exact ((hy.take k).app (ByL.one hx)).app (hy.drop k)) (by simp; omega) h3.rd hpq h3.gr⟩
theorem at_one (w : World) (x : Int) : AtY (w.alloc (.cells #[.int .u8 x] 5)) w.heap.size 0 [x] := atY_new w [x]

theorem path1 {w U : World} {R p g cap k b0 : Nat} {z : List Int} {x : Int} (h : Mk w R p g z U) (hRw : R < w.heap.size) (hgw : g < w.heap.size) (ho : OwnY U w.heap.size (.slice (some ⟨b0, 0, none⟩) 0 0) []) (hx : 0 ≤ x ∧ x ≤ 255) (hy : ByL z) (hz : z.length ≤ 600) (hk : k < z.length) (hc : z.length ≤ cap) {q : Nat} (hpq : p ≤ q + 8) :
    ∃ v1 U1 v2 U2 v3 U3, (Builtin.append_ #[22, 22] 22 #[.slice (some ⟨b0, 0, none⟩) 0 0, .slice (some ⟨g, 0, none⟩) k cap]).run Tryd.prog U = .ok v1 U1 ∧
      (Builtin.append_ #[22, 22] 22 #[v1, .slice (some ⟨U1.heap.size, 0, none⟩) 1 1]).run Tryd.prog (U1.alloc (.cells #[.int .u8 x] 5)) = .ok v2 U2 ∧
      (Builtin.append_ #[22, 22] 22 #[v2, .slice (some ⟨g, k, none⟩) (z.length - k) (cap - k)]).run Tryd.prog U2 = .ok v3 U3 ∧ Hid (Turned w R q 601 (.returned v3) U3) := by
  have hs := h.gr.size
  have hl1 : (z.take k).length = k := by simp; omega
  obtain ⟨v1, U1, r1, o1, g1⟩ := app_any U w.heap.size _ [] (z.take k) g 0 cap ho hs (by simp; omega) (h.at_.take k)
  rw [hl1] at r1
  have h1 : Mk w R p g z U1 := h.grown g1 (fun j e => by have := (World.ownsRow.lt ho j e).1; omega)
  obtain ⟨v2, U2, v3, U3, r2, r3, hf⟩ := tail1 (cap := cap) (k := k) (x := x) h1 hRw hgw o1 (by rw [List.nil_append]; exact hy.take k) (by rw [List.nil_append]; exact hl1) hx hy hz hk hc (by omega) hpq
  exact ⟨v1, U1, v2, U2, v3, U3, r1, r2, r3, hf⟩
theorem two_own (w : World) (base : Nat) (x : Int) (hb : base ≤ w.heap.size) : OwnY ((w.alloc (.cells #[] 5)).alloc (.cells #[.int .u8 x] 5)) base (.slice (some ⟨w.heap.size, 0, none⟩) 0 0) [] ∧ AtY ((w.alloc (.cells #[] 5)).alloc (.cells #[.int .u8 x] 5)) (w.heap.size + 1) 0 [x] ∧
    OwnY ((w.alloc (.cells #[.int .u8 x] 5)).alloc (.cells #[] 5)) base (.slice (some ⟨w.heap.size + 1, 0, none⟩) 0 0) [] ∧ AtY ((w.alloc (.cells #[.int .u8 x] 5)).alloc (.cells #[] 5)) w.heap.size 0 [x] := by
  have e1 := at_one (w.alloc (.cells #[] 5)) x
  have e2 := made_noneY (w.alloc (.cells #[.int .u8 x] 5)) base (by simp; omega)
  rw [World.size_alloc] at e1 e2
  exact ⟨World.ownsRow.alloc (made_noneY w base hb) _, e1, e2, (at_one w x).below (cell_below _ _)⟩

theorem xor_u8_in (a b : Int) : 0 ≤ bits .xor .u8 a b ∧ bits .xor .u8 a b ≤ 255 := by
  have h : ∃ n, bits .xor .u8 a b = IntKind.u8.wrap n := ⟨_, rfl⟩
  obtain ⟨n, h⟩ := h
  rw [h, IntKind.wrap_u8]
  omega
theorem bys_set (z : List Int) (k : Nat) (x : Int) : (bys z).set k (.int .u8 x) = bys (z.set k x) := by
  simp [bys, List.map_set]
theorem byl_set {z : List Int} (h : ByL z) (k : Nat) {x : Int} (hx : 0 ≤ x ∧ x ≤ 255) : ByL (z.set k x) := fun y hy => by
  rcases List.mem_or_eq_of_mem_set hy with h' | h'
  · exact h y h'
  · rw [h']; exact hx

set_option maxRecDepth 100000 in
set_option maxHeartbeats 8000000 in
theorem turn_some (R p g cap : Nat) (z : List Int) (w : World) (hA : AtY w g 0 z) (hy : ByL z) (h0 : 0 < z.length) (hz : z.length ≤ 600) (hc1 : z.length ≤ cap) (hc2 : cap ≤ maxLen) (hg : R < g) (hp : p ≤ 999990000) (h : Rd w R p) :
    Calls Tryd.prog 31 #[.pointer (some ⟨R, 0, none⟩), .slice (some ⟨g, 0, none⟩) z.length cap] w (Turned w R p 601) := by
  have hR := h.lt
  have hgl := hA.lt h0
  go_enter Tryd.func31, Tryd.ntmps31
  go_wp2_with fail
  refine (pick_any R p 256 _ (by omega) (by omega) (by omega) h).mono ?_
  rintro e w1 ⟨r1, rfl, ha0, ha1, hR1, hG1⟩
  go_wp2_with fail
  refine (pick_any R (p + 1) 256 _ (by omega) (by omega) (by omega) hR1).mono ?_
  rintro e w2 ⟨r2, rfl, hb0, hb1, hR2, hG2⟩
  go_wp2_with fail
  refine (pick_any R (p + 1 + 1) 4 _ (by omega) (by omega) (by omega) hR2).mono ?_
  rintro e w3 ⟨r3, rfl, hd0, hd1, hR3, hG3⟩
  have hA3 : AtY w3 g 0 z := fun i hi => by
    have e1 := hG1.block g hgl (by simp; omega)
    have e2 := hG2.block g (Nat.lt_of_lt_of_le hgl hG1.size) (by simp; omega)
    have e3 := hG3.block g (Nat.lt_of_lt_of_le hgl (Nat.le_trans hG1.size hG2.size)) (by simp; omega)
    exact (World.cell?_of_block (a := ⟨g, 0 + i, none⟩) (e3.trans (e2.trans e1))).trans (hA i hi)
  have hG : w.grownBy w3 (some R) := grown_trans (grown_trans hG1 hG2) hG3
  have hgl3 : g < w3.heap.size := Nat.lt_of_lt_of_le hgl hG.size
  obtain ⟨k, hk⟩ : ∃ k : Nat, (r1 * 256 + r2) % (z.length : Int) = (k : Int) := Int.eq_ofNat_of_zero_le (Int.emod_nonneg _ (by omega))
  have hkl : k < z.length := by have := Int.emod_lt_of_pos (r1 * 256 + r2) (show (0 : Int) < (z.length : Int) by omega); omega
  rw [hk]
  clear hR1 hR2 hG1 hG2 hG3 h hA hk ha0 ha1 hb0 hb1
  by_cases hc0 : r3 = 0
  · subst hc0
    obtain ⟨v1, w4, q1, o1, g1⟩ := app_any (w3.alloc (.cells #[] 5)).drew w.heap.size (.slice (some ⟨w3.heap.size, 0, none⟩) 0 0) [] (z.take k) g 0 cap (World.ownsRow.drew (made_noneY w3 _ hG.size)) (Nat.le_trans hG.size (cell_below w3 _).size) (by simp; omega) ((hA3.take k).below (cell_below _ _).drew)
    have hG4 : w.grownBy w4 (some R) := grown_row (grown_allocs hG _) g1 (fun k e => by cases e; exact hG.size)
    have hA4 : AtY w4 g 0 z := atY_grown (hA3.below (cell_below _ _).drew) g1 (fun j e => by have e' : w3.heap.size = j := (by simpa [Value.ownBlock] using e); omega)
    have ho1 := o1
    obtain ⟨v2, w5, q2, o2, g2⟩ := app_drop w4 w.heap.size v1 _ z g cap (k + 1) o1 hG4.size (by simp; omega) hA4 (by omega) hc1
    have hG5 : w.grownBy w5 (some R) := grown_row hG4 g2 (fun j e => (World.ownsRow.lt ho1 j e).1)
    have hR4 : Rd w4 R (p + 1 + 1 + 1) := (hR3.below (cell_below w3 (.cells #[] 5)).drew).grown g1 (fun j e => by have e' : w3.heap.size = j := (by simpa [Value.ownBlock] using e); have := hG.size; omega)
    have hR5 : Rd w5 R (p + 1 + 1 + 1) := hR4.grown g2 (fun j e => by have := (World.ownsRow.lt ho1 j e).1; omega)
    have HF := hide (turned_mk (n := 601) o2 (by rw [List.nil_append]; exact (hy.take k).app (hy.drop (k + 1))) (by simp; omega) hR5 (show p + 1 + 1 + 1 ≤ p + 8 by omega) hG5)
    have hl1 : (z.take k).length = k := by simp; omega
    rw [hl1] at q1
    have hkc : k ≤ cap := by omega
    have hkc1 : k + 1 ≤ cap := by omega
    clear o1 o2 ho1 g1 g2 hG4 hG5 hA4 hR4 hR5 hA3 hR3 hl1 hy hG hd0 hd1
    go_wp2
    go_region
    all_goals go_wp2
    all_goals go_ret
    all_goals exact unhide HF
  by_cases hc1' : r3 = 1
  · subst hc1'
    have hM : Mk w R (p + 1 + 1 + 1) g z w3 := ⟨hG, hR3, hA3⟩
    have hkc : k ≤ cap := by omega
    have hl1 : (z.take k).length = k := by simp; omega
    -- without the number drawn
    obtain ⟨v1, w4, q1, o1, g1⟩ := app_any (w3.alloc (.cells #[] 5)).drew w.heap.size (.slice (some ⟨w3.heap.size, 0, none⟩) 0 0) [] (z.take k) g 0 cap (World.ownsRow.drew (made_noneY w3 _ hG.size)) (Nat.le_trans hG.size (cell_below w3 _).size) (by simp; omega) ((hA3.take k).below (cell_below _ _).drew)
    rw [hl1] at q1
    have hMa : Mk w R (p + 1 + 1 + 1) g z (w3.alloc (.cells #[] 5)).drew := ⟨grown_allocs hG _, hR3.below (cell_below w3 (.cells #[] 5)).drew, hA3.below (cell_below w3 (.cells #[] 5)).drew⟩
    have hM4 : Mk w R (p + 1 + 1 + 1) g z w4 := hMa.grown g1 (fun j e => by have e' : w3.heap.size = j := (by simpa [Value.ownBlock] using e); have := hG.size; omega)
    have hw4 : w3.heap.size < w4.heap.size := by have := g1.size; simp at this; omega
    have HM := hide (And.intro hM (And.intro hMa hM4))
    have HO := hide o1
    have HY := hide hy
    have hws := hG.size
    have hd3 : Rd w3.drew R (p + 1 + 1 + 1) := hR3.below (Below.refl _ _).drew
    have HRA := hide (pick_any R (p + 1 + 1 + 1) 5 w3.drew (by omega) (by omega) (by omega) hd3)
    have HRB := hide (pick_any R (p + 1 + 1 + 1) 5 (w3.alloc (.cells #[] 5)).drew (by omega) (by omega) (by omega) hMa.rd)
    have HRC := hide (pick_any R (p + 1 + 1 + 1) 5 w4 (by omega) (by omega) (by omega) hM4.rd)
    clear hM hMa hM4 g1 o1 hA3 hR3 hl1 hy hd0 hd1 hd3
    go_wp2
    go_region_with (first
      | (go_at_call 30; refine (unhide HRA).mono ?_; rintro e w5 ⟨x, rfl, hx0, hx1, hR5, hG5⟩; have hM5 : Mk w R (p + 1 + 1 + 1 + 1) g z w5 := ⟨grown_trans (unhide HM).1.gr (grown_undrew hG5), hR5, atY_grown (w := w3.drew) (unhide HM).1.at_ hG5 (fun j e => by cases e; omega)⟩; have hxb : 0 ≤ x ∧ x ≤ 255 := ⟨hx0, by omega⟩; have hwx : IntKind.u8.wrap x = x := (by rw [IntKind.wrap_u8]; omega); have hws5 := hM5.gr.size; obtain ⟨t1, t2, t3, t4⟩ := two_own w5 w.heap.size x hws5; obtain ⟨vA1, A1, vA2, A2, vA3, A3, qA1, qA2, qA3, HA⟩ := path1 (cap := cap) (k := k) (x := x) (q := p) (hM5.alloc (.cells #[] 5)) hR hgl (made_noneY w5 _ hws5) hxb (unhide HY) hz hkl hc1 (by omega); obtain ⟨vB1, B1, vB2, B2, vB3, B3, qB1, qB2, qB3, HB⟩ := tail2 (cap := cap) (k := k) (x := x) (q := p) ((hM5.alloc (.cells #[] 5)).alloc (.cells #[.int .u8 x] 5)) hR hgl t1 t2 (by omega) (by omega) hxb (unhide HY) hz hkl hc1 (by omega); obtain ⟨vC1, C1, vC2, C2, vC3, C3, qC1, qC2, qC3, HC⟩ := tail2 (cap := cap) (k := k) (x := x) (q := p) ((hM5.alloc (.cells #[.int .u8 x] 5)).alloc (.cells #[] 5)) hR hgl t3 t4 (by omega) hws5 hxb (unhide HY) hz hkl hc1 (by omega); clear t1 t2 t3 t4 hM5 hR5 hG5)
      | (go_at_call 30; refine (unhide HRB).mono ?_; rintro e w5 ⟨x, rfl, hx0, hx1, hR5, hG5⟩; have hM5 : Mk w R (p + 1 + 1 + 1 + 1) g z w5 := ⟨grown_trans (unhide HM).2.1.gr hG5, hR5, atY_grown (unhide HM).2.1.at_ hG5 (fun j e => by cases e; omega)⟩; have hxb : 0 ≤ x ∧ x ≤ 255 := ⟨hx0, by omega⟩; have hwx : IntKind.u8.wrap x = x := (by rw [IntKind.wrap_u8]; omega); have hws5 := hM5.gr.size; have hw35 : w3.heap.size < w5.heap.size := (by have := hG5.size; simp at this; omega); have hO5 : OwnY w5 w.heap.size (.slice (some ⟨w3.heap.size, 0, none⟩) 0 0) [] := own_apart (World.ownsRow.drew (made_noneY w3 _ hws)) hG5 (fun j e => by cases e; exact .inl hR); obtain ⟨vA1, A1, vA2, A2, vA3, A3, qA1, qA2, qA3, HA⟩ := path1 (cap := cap) (k := k) (x := x) (q := p) hM5 hR hgl hO5 hxb (unhide HY) hz hkl hc1 (by omega); obtain ⟨vB1, B1, vB2, B2, vB3, B3, qB1, qB2, qB3, HB⟩ := tail2 (cap := cap) (k := k) (x := x) (q := p) (hM5.alloc (.cells #[.int .u8 x] 5)) hR hgl (World.ownsRow.alloc hO5 _) (at_one w5 x) (by omega) hws5 hxb (unhide HY) hz hkl hc1 (by omega); clear hM5 hR5 hG5 hO5)
      | (go_at_call 30; refine (unhide HRC).mono ?_; rintro e w5 ⟨x, rfl, hx0, hx1, hR5, hG5⟩; have hM5 : Mk w R (p + 1 + 1 + 1 + 1) g z w5 := (by exact ⟨grown_trans (unhide HM).2.2.gr hG5, hR5, atY_grown (unhide HM).2.2.at_ hG5 (fun j e => by cases e; omega)⟩); have hxb : 0 ≤ x ∧ x ≤ 255 := ⟨hx0, by omega⟩; have hwx : IntKind.u8.wrap x = x := (by rw [IntKind.wrap_u8]; omega); have hws5 := hM5.gr.size; have hO5 := own_apart (unhide HO) hG5 (fun j e => by cases e; exact .inl hR); obtain ⟨vA2, A2, vA3, A3, qA2, qA3, HA⟩ := tail1 (cap := cap) (k := k) (x := x) (q := p) hM5 hR hgl hO5 (by rw [List.nil_append]; exact (unhide HY).take k) (by simp; omega) hxb (unhide HY) hz hkl hc1 (by omega) (by omega); clear hM5 hR5 hG5 hO5))
    all_goals go_wp2
    all_goals go_ret
    all_goals (first | exact unhide HA | exact unhide HB | exact unhide HC)
  · have hb0 : (r3 == 0) = false := by simpa using hc0
    have hb1 : (r3 == 1) = false := by simpa using hc1'
    obtain ⟨v1, w4, q1, o1, g1⟩ := app_any (w3.alloc (.cells #[] 5)) w.heap.size (.slice (some ⟨w3.heap.size, 0, none⟩) 0 0) [] z g 0 cap (made_noneY w3 _ hG.size) (Nat.le_trans hG.size (cell_below w3 _).size) (by simp; omega) (hA3.below (cell_below _ _))
    have hG3a : w.grownBy (w3.alloc (.cells #[] 5)) (some R) := grown_trans hG (grown_alloc _ _ _)
    have hG4 : w.grownBy w4 (some R) := grown_row hG3a g1 (fun j e => by have e' : w3.heap.size = j := (by simpa [Value.ownBlock] using e); have := hG.size; omega)
    have hR4 : Rd w4 R (p + 1 + 1 + 1) := (hR3.alloc _).grown g1 (fun j e => by have e' : w3.heap.size = j := (by simpa [Value.ownBlock] using e); have := hG.size; omega)
    rw [List.nil_append] at o1
    obtain ⟨g1', c1, rfl, hgb, hgl1, hA1, _, _⟩ := o1.some h0
    have hd4 : Rd w4.drew R (p + 1 + 1 + 1) := hR4.below (Below.refl _ _).drew
    have HR := hide (pick_any R (p + 1 + 1 + 1) 255 w4.drew (by omega) (by omega) (by omega) hd4)
    have hx := hy.get k hkl
    have hcell : w4.cell? ⟨g1', k, none⟩ = some (.int .u8 z[k]) := by have := hA1 k hkl; simpa using this
    have hfro : w4.frozen? ⟨g1', k, none⟩ = false := o1.frozenAt k
    obtain ⟨y, hyk⟩ : ∃ y, y = z[k] := ⟨_, rfl⟩
    rw [← hyk] at hcell hx
    have HO := hide (And.intro o1 (And.intro hG4 hy))
    have hki : (k : Int) < (z.length : Int) := by omega
    have hgR : g1' ≠ R := by omega
    clear hR3 hA3 g1 hG3a hR4 hA1 hd4 o1 hG hyk hy hc0 hc1' hd0 hd1 hG4
    go_wp2
    go_region_with (go_at_call 30; refine (unhide HR).mono ?_; rintro e w5 ⟨x, rfl, hx0, hx1, hR5, hG5⟩; have hwx : IntKind.i64.wrap (1 + x) = 1 + x := (by rw [IntKind.wrap_i64]; omega); have hwy : IntKind.u8.wrap (1 + x) = 1 + x := (by rw [IntKind.wrap_u8]; omega); have e5 : w5.cell? ⟨g1', k, none⟩ = some (.int .u8 y) := (World.cell?_of_block (a := ⟨g1', k, none⟩) (hG5.block g1' hgl1 (by simpa using hgR))).trans hcell; have f5 : w5.frozen? ⟨g1', k, none⟩ = false := (World.frozen?_of_block (a := ⟨g1', k, none⟩) (hG5.block g1' hgl1 (by simpa using hgR))).trans hfro)
    all_goals
      obtain ⟨o1, hG4, hy⟩ := unhide HO
      have o5 : OwnY w5 w.heap.size (.slice (some ⟨g1', 0, none⟩) z.length c1) z := own_apart o1 (grown_undrew hG5) (fun j e => by cases e; exact .inl hR)
      have hst := (o5.stored k (.int .u8 (bits .xor .u8 y (1 + x)))).1
      rw [bys_set] at hst
      have o6 : OwnY (w5.setCell ⟨g1', k, none⟩ (.int .u8 (bits .xor .u8 y (1 + x)))) w.heap.size (.slice (some ⟨g1', 0, none⟩) z.length c1) (z.set k (bits .xor .u8 y (1 + x))) := by
        unfold OwnY
        rw [List.length_set]
        exact hst
      have HF := hide (turned_mk (n := 601) (p := p) o6 (byl_set hy k (xor_u8_in _ _)) (by simp; omega) (hR5.set (by show R < g1'; omega) _) (by omega) (grown_set (grown_trans hG4 (grown_undrew hG5)) hgb _))
      clear o1 hG4 hy o5 hst o6 hR5 hG5 HO
      go_wp2
      go_ret
      exact unhide HF
end Go.Proofs.YtjinbinnjpjniaaDoor
