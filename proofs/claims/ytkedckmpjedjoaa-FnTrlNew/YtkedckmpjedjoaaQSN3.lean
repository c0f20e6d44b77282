/- Solving at its beginning: the specification's. -/
import Derived.Test.YtkedckmpjedjoaaQQX1SN1SN2QJ1QJ5
import Derived.Test.YtkedckmpjedjoaaQTG6SP1
namespace Go.Proofs.Ytkedckmpjedjoaa
open Go.RowKit Go.Shelf
set_option linter.unusedVariables false
set_option linter.unusedSimpArgs false

/-- Solving of a question at its beginning, as it lies: its one goal in block g. -/
def BegV (w : World) (t : List C) (n : Int) (v : Value) : Prop := ∃ (g cg : Nat) (a : Value) (top : Value) (bo co oo : Option Addr) (bc cc oc : Nat),
  v = .agg #[.int .i64 1, .slice (some ⟨g, 0, none⟩) 1 cg, .slice bo 0 bc, .int .i64 n, .slice co 0 cc, top, .slice oo 0 oc] ∧ 1 ≤ cg ∧ cg ≤ maxLen ∧
  w.cell? ⟨g, 0, none⟩ = some (.int .i64 1) ∧ w.cell? ⟨g, 1, none⟩ = some a ∧ (∃ po pc, w.cell? ⟨g, 2, none⟩ = some (.slice po 0 pc)) ∧ (∃ po pc, w.cell? ⟨g, 3, none⟩ = some (.slice po 0 pc)) ∧ w.cell? ⟨g, 4, none⟩ = some (.int .i64 0) ∧ SlC w a t ∧ SlC w top t

set_option maxRecDepth 100000 in
set_option maxHeartbeats 4000000 in
theorem specSlvNew_no (ao : Option Addr) (cap : Nat) (t : List C) (w : World) (hm : t.length ≤ maxLen) (hA : Row w ao t) (hF : Fit t) (hn : topB t = false) :
    Calls Try.prog 17 #[.slice ao t.length cap] w fun e w' => e = .returned (.agg #[.int .i64 0, .slice none 0 0, .slice none 0 0, .int .i64 0, .slice none 0 0, .slice none 0 0, .slice none 0 0]) ∧ Below w.heap.size w w' := by
  have H1 := hide (fun (W : World) (hW : Below w.heap.size w W) => l4Top_any ao cap t W hm (hA.below hW) hF)
  rw [hn] at H1
  clear hA hF hn
  go_enter Try.func17, Try.ntmps17
  go_wp2_with fail
  obtain ⟨W, hW⟩ : ∃ W, W = w.alloc (Obj.cells #[.int .i64 0, .slice none 0 0, .slice none 0 0, .int .i64 0, .slice none 0 0, .slice none 0 0, .slice none 0 0] 43) := ⟨_, rfl⟩
  have hB0 : Below w.heap.size w W := by rw [hW]; exact (Below.refl _ _).alloc (Nat.le_refl _) _
  have hl : w.heap.size < W.heap.size := by rw [hW]; simp
  have c0 : W.cell? ⟨w.heap.size, 0, none⟩ = some (.int .i64 0) := by rw [hW]; simp [go_sem]
  have f0 : W.frozen? ⟨w.heap.size, 0, none⟩ = false := by rw [hW]; simp [go_sem]
  have c1 : W.cell? ⟨w.heap.size, 1, none⟩ = some (.slice none 0 0) := by rw [hW]; simp [go_sem]
  have f1 : W.frozen? ⟨w.heap.size, 1, none⟩ = false := by rw [hW]; simp [go_sem]
  have c2 : W.cell? ⟨w.heap.size, 2, none⟩ = some (.slice none 0 0) := by rw [hW]; simp [go_sem]
  have f2 : W.frozen? ⟨w.heap.size, 2, none⟩ = false := by rw [hW]; simp [go_sem]
  have c3 : W.cell? ⟨w.heap.size, 3, none⟩ = some (.int .i64 0) := by rw [hW]; simp [go_sem]
  have f3 : W.frozen? ⟨w.heap.size, 3, none⟩ = false := by rw [hW]; simp [go_sem]
  have c4 : W.cell? ⟨w.heap.size, 4, none⟩ = some (.slice none 0 0) := by rw [hW]; simp [go_sem]
  have f4 : W.frozen? ⟨w.heap.size, 4, none⟩ = false := by rw [hW]; simp [go_sem]
  have c5 : W.cell? ⟨w.heap.size, 5, none⟩ = some (.slice none 0 0) := by rw [hW]; simp [go_sem]
  have f5 : W.frozen? ⟨w.heap.size, 5, none⟩ = false := by rw [hW]; simp [go_sem]
  have c6 : W.cell? ⟨w.heap.size, 6, none⟩ = some (.slice none 0 0) := by rw [hW]; simp [go_sem]
  have f6 : W.frozen? ⟨w.heap.size, 6, none⟩ = false := by rw [hW]; simp [go_sem]
  rw [← hW]
  clear hW
  refine (unhide H1 W hB0).mono ?_
  rintro e w1 ⟨rfl, hb⟩
  replace c0 := (hb.cell (p := ⟨w.heap.size, 0, none⟩) hl).trans c0
  replace f0 := (hb.frozen (p := ⟨w.heap.size, 0, none⟩) hl).trans f0
  replace c1 := (hb.cell (p := ⟨w.heap.size, 1, none⟩) hl).trans c1
  replace f1 := (hb.frozen (p := ⟨w.heap.size, 1, none⟩) hl).trans f1
  replace c2 := (hb.cell (p := ⟨w.heap.size, 2, none⟩) hl).trans c2
  replace f2 := (hb.frozen (p := ⟨w.heap.size, 2, none⟩) hl).trans f2
  replace c3 := (hb.cell (p := ⟨w.heap.size, 3, none⟩) hl).trans c3
  replace f3 := (hb.frozen (p := ⟨w.heap.size, 3, none⟩) hl).trans f3
  replace c4 := (hb.cell (p := ⟨w.heap.size, 4, none⟩) hl).trans c4
  replace f4 := (hb.frozen (p := ⟨w.heap.size, 4, none⟩) hl).trans f4
  replace c5 := (hb.cell (p := ⟨w.heap.size, 5, none⟩) hl).trans c5
  replace f5 := (hb.frozen (p := ⟨w.heap.size, 5, none⟩) hl).trans f5
  replace c6 := (hb.cell (p := ⟨w.heap.size, 6, none⟩) hl).trans c6
  replace f6 := (hb.frozen (p := ⟨w.heap.size, 6, none⟩) hl).trans f6
  have FB := hide (bstep hB0 hb)
  clear H1 hB0 hb
  go_wp2
  exact bodyPost_ret (v := .agg #[.int .i64 0, .slice none 0 0, .slice none 0 0, .int .i64 0, .slice none 0 0, .slice none 0 0, .slice none 0 0]) (by simp [results, Try.results17, go_sem, *]) rfl ⟨rfl, (((((((unhide FB).setCell (p := ⟨w.heap.size, 0, none⟩) (Nat.le_refl _) _).setCell (p := ⟨w.heap.size, 1, none⟩) (Nat.le_refl _) _).setCell (p := ⟨w.heap.size, 2, none⟩) (Nat.le_refl _) _).setCell (p := ⟨w.heap.size, 3, none⟩) (Nat.le_refl _) _).setCell (p := ⟨w.heap.size, 4, none⟩) (Nat.le_refl _) _).setCell (p := ⟨w.heap.size, 5, none⟩) (Nat.le_refl _) _).setCell (p := ⟨w.heap.size, 6, none⟩) (Nat.le_refl _) _⟩

set_option maxRecDepth 100000 in
set_option maxHeartbeats 4000000 in
theorem specSlvNew_yes (b off cap : Nat) (t : List C) (w : World) (hm : t.length ≤ maxLen) (hA : At w b off t) (hF : Fit t) (hy : topB t = true) :
    Calls Try.prog 17 #[.slice (some ⟨b, off, none⟩) t.length cap] w fun e w' => ∃ v, e = .returned v ∧ BegV w' t ((freeOf t).length : Int) v ∧ Below w.heap.size w w' := by
  have hR : Row w (some ⟨b, off, none⟩) t := .inr ⟨b, off, rfl, hA⟩
  have ht : trm t = true := by unfold topB at hy; simp only [Bool.and_eq_true] at hy; exact hy.1.1
  have hl40 := (trm_len ht).2
  have H1 := hide (fun (W : World) (hW : Below w.heap.size w W) => l4Top_any (some ⟨b, off, none⟩) cap t W hm (hR.below hW) hF)
  rw [hy] at H1
  have HFr := hide (fun (W : World) (hW : Below w.heap.size w W) => specTrmFree_any (some ⟨b, off, none⟩) cap t W (by omega) (hR.below hW))
  have HAt := hide (fun (W : World) (hW : Below w.heap.size w W) => at_each5 (hA.below hW))
  obtain ⟨i0, hi, hz0, hz1, hz2⟩ := info_parts Try.infoCell
  clear hA hF hy hR ht
  go_enter Try.func17, Try.ntmps17
  go_wp2_with fail
  obtain ⟨W, hW⟩ : ∃ W, W = w.alloc (Obj.cells #[.int .i64 0, .slice none 0 0, .slice none 0 0, .int .i64 0, .slice none 0 0, .slice none 0 0, .slice none 0 0] 43) := ⟨_, rfl⟩
  have hB0 : Below w.heap.size w W := by rw [hW]; exact (Below.refl _ _).alloc (Nat.le_refl _) _
  have hl : w.heap.size < W.heap.size := by rw [hW]; simp
  have c0 : W.cell? ⟨w.heap.size, 0, none⟩ = some (.int .i64 0) := by rw [hW]; simp [go_sem]
  have f0 : W.frozen? ⟨w.heap.size, 0, none⟩ = false := by rw [hW]; simp [go_sem]
  have c1 : W.cell? ⟨w.heap.size, 1, none⟩ = some (.slice none 0 0) := by rw [hW]; simp [go_sem]
  have f1 : W.frozen? ⟨w.heap.size, 1, none⟩ = false := by rw [hW]; simp [go_sem]
  have c2 : W.cell? ⟨w.heap.size, 2, none⟩ = some (.slice none 0 0) := by rw [hW]; simp [go_sem]
  have f2 : W.frozen? ⟨w.heap.size, 2, none⟩ = false := by rw [hW]; simp [go_sem]
  have c3 : W.cell? ⟨w.heap.size, 3, none⟩ = some (.int .i64 0) := by rw [hW]; simp [go_sem]
  have f3 : W.frozen? ⟨w.heap.size, 3, none⟩ = false := by rw [hW]; simp [go_sem]
  have c4 : W.cell? ⟨w.heap.size, 4, none⟩ = some (.slice none 0 0) := by rw [hW]; simp [go_sem]
  have f4 : W.frozen? ⟨w.heap.size, 4, none⟩ = false := by rw [hW]; simp [go_sem]
  have c5 : W.cell? ⟨w.heap.size, 5, none⟩ = some (.slice none 0 0) := by rw [hW]; simp [go_sem]
  have f5 : W.frozen? ⟨w.heap.size, 5, none⟩ = false := by rw [hW]; simp [go_sem]
  have c6 : W.cell? ⟨w.heap.size, 6, none⟩ = some (.slice none 0 0) := by rw [hW]; simp [go_sem]
  have f6 : W.frozen? ⟨w.heap.size, 6, none⟩ = false := by rw [hW]; simp [go_sem]
  rw [← hW]
  clear hW
  refine (unhide H1 W hB0).mono ?_
  rintro e w1 ⟨rfl, hb⟩
  replace c0 := (hb.cell (p := ⟨w.heap.size, 0, none⟩) hl).trans c0
  replace f0 := (hb.frozen (p := ⟨w.heap.size, 0, none⟩) hl).trans f0
  replace c1 := (hb.cell (p := ⟨w.heap.size, 1, none⟩) hl).trans c1
  replace f1 := (hb.frozen (p := ⟨w.heap.size, 1, none⟩) hl).trans f1
  replace c2 := (hb.cell (p := ⟨w.heap.size, 2, none⟩) hl).trans c2
  replace f2 := (hb.frozen (p := ⟨w.heap.size, 2, none⟩) hl).trans f2
  replace c3 := (hb.cell (p := ⟨w.heap.size, 3, none⟩) hl).trans c3
  replace f3 := (hb.frozen (p := ⟨w.heap.size, 3, none⟩) hl).trans f3
  replace c4 := (hb.cell (p := ⟨w.heap.size, 4, none⟩) hl).trans c4
  replace f4 := (hb.frozen (p := ⟨w.heap.size, 4, none⟩) hl).trans f4
  replace c5 := (hb.cell (p := ⟨w.heap.size, 5, none⟩) hl).trans c5
  replace f5 := (hb.frozen (p := ⟨w.heap.size, 5, none⟩) hl).trans f5
  replace c6 := (hb.cell (p := ⟨w.heap.size, 6, none⟩) hl).trans c6
  replace f6 := (hb.frozen (p := ⟨w.heap.size, 6, none⟩) hl).trans f6
  have hB1 := bstep hB0 hb
  replace hl := Nat.lt_of_lt_of_le hl hb.size
  clear H1 hB0 hb
  have hnews := unhide HAt (w1.alloc (Obj.cells #[] 98)) (bstep hB1 (cell_below _ _))
  go_wp2_with (at_builtin; refine wpList_append_own _ rfl _ _ 41 rfl w1.heap.size 98 i0 _ 3 32 Try.underlying41 hi hz0 hz1 hz2 rfl (by decide) _ _ _ rfl (World.ownsRow_made w1 #[] 0 (Nat.le_refl _) (by simp [maxLen]) rfl) ⟨b, off, none⟩ t.length cap (flat t) rfl (flat_length t) hnews (flat_one5 t) ?s3 ?s4 ?s5 ?_)
  case s3 => unfold maxLen; omega
  case s4 => omega
  case s5 => simp
  intro u1 w2 ho1 hG1 _
  have hO1 : OwnC w2 w1.heap.size u1 t := by unfold OwnC; simpa using ho1
  have hb : Below w1.heap.size w1 w2 := ((Below.refl _ w1).alloc (Nat.le_refl _) _).grown hG1 (by simp) (fun k e => by simp [Value.ownBlock] at e; omega)
  obtain ⟨a1, k1, rfl, _⟩ := hO1.shape
  clear ho1 hG1 hnews

  replace c0 := (hb.cell (p := ⟨w.heap.size, 0, none⟩) hl).trans c0
  replace f0 := (hb.frozen (p := ⟨w.heap.size, 0, none⟩) hl).trans f0
  replace c1 := (hb.cell (p := ⟨w.heap.size, 1, none⟩) hl).trans c1
  replace f1 := (hb.frozen (p := ⟨w.heap.size, 1, none⟩) hl).trans f1
  replace c2 := (hb.cell (p := ⟨w.heap.size, 2, none⟩) hl).trans c2
  replace f2 := (hb.frozen (p := ⟨w.heap.size, 2, none⟩) hl).trans f2
  replace c3 := (hb.cell (p := ⟨w.heap.size, 3, none⟩) hl).trans c3
  replace f3 := (hb.frozen (p := ⟨w.heap.size, 3, none⟩) hl).trans f3
  replace c4 := (hb.cell (p := ⟨w.heap.size, 4, none⟩) hl).trans c4
  replace f4 := (hb.frozen (p := ⟨w.heap.size, 4, none⟩) hl).trans f4
  replace c5 := (hb.cell (p := ⟨w.heap.size, 5, none⟩) hl).trans c5
  replace f5 := (hb.frozen (p := ⟨w.heap.size, 5, none⟩) hl).trans f5
  replace c6 := (hb.cell (p := ⟨w.heap.size, 6, none⟩) hl).trans c6
  replace f6 := (hb.frozen (p := ⟨w.heap.size, 6, none⟩) hl).trans f6
  have S1 := hide (show Sup w1.heap.size w2 (fun V => SlC V (.slice a1 t.length k1) t) from fun V hk => SegC.slC (lo := w1.heap.size) (hi := w2.heap.size) ⟨own_block hO1 (fun j e => hk j (hO1.lt j e).1 (hO1.lt j e).2), fun j e => (hO1.lt j e).2⟩)
  have hB2 := bstep hB1 hb
  have hw1 : w.heap.size < w1.heap.size := hl
  replace hl := Nat.lt_of_lt_of_le hl hb.size
  have hl2 := hb.size
  clear hb hO1
  go_wp2_with fail
  obtain ⟨W3, hW⟩ : ∃ W, W = w2.alloc (Obj.cells #[.int .i64 1, .slice a1 t.length k1, .slice none 0 0, .slice none 0 0, .int .i64 0] 95) := ⟨_, rfl⟩
  have hb : Below w2.heap.size w2 W3 := by rw [hW]; exact cell_below _ _
  have hlG : w2.heap.size < W3.heap.size := by rw [hW]; simp
  have d0 : W3.cell? ⟨w2.heap.size, 0, none⟩ = some (.int .i64 1) := by rw [hW]; simp [go_sem]
  have d1 : W3.cell? ⟨w2.heap.size, 1, none⟩ = some (.slice a1 t.length k1) := by rw [hW]; simp [go_sem]
  have d2 : W3.cell? ⟨w2.heap.size, 2, none⟩ = some (.slice none 0 0) := by rw [hW]; simp [go_sem]
  have d3 : W3.cell? ⟨w2.heap.size, 3, none⟩ = some (.slice none 0 0) := by rw [hW]; simp [go_sem]
  have d4 : W3.cell? ⟨w2.heap.size, 4, none⟩ = some (.int .i64 0) := by rw [hW]; simp [go_sem]
  rw [← hW]
  clear hW
  replace c0 := (hb.cell (p := ⟨w.heap.size, 0, none⟩) hl).trans c0
  replace f0 := (hb.frozen (p := ⟨w.heap.size, 0, none⟩) hl).trans f0
  replace c1 := (hb.cell (p := ⟨w.heap.size, 1, none⟩) hl).trans c1
  replace f1 := (hb.frozen (p := ⟨w.heap.size, 1, none⟩) hl).trans f1
  replace c2 := (hb.cell (p := ⟨w.heap.size, 2, none⟩) hl).trans c2
  replace f2 := (hb.frozen (p := ⟨w.heap.size, 2, none⟩) hl).trans f2
  replace c3 := (hb.cell (p := ⟨w.heap.size, 3, none⟩) hl).trans c3
  replace f3 := (hb.frozen (p := ⟨w.heap.size, 3, none⟩) hl).trans f3
  replace c4 := (hb.cell (p := ⟨w.heap.size, 4, none⟩) hl).trans c4
  replace f4 := (hb.frozen (p := ⟨w.heap.size, 4, none⟩) hl).trans f4
  replace c5 := (hb.cell (p := ⟨w.heap.size, 5, none⟩) hl).trans c5
  replace f5 := (hb.frozen (p := ⟨w.heap.size, 5, none⟩) hl).trans f5
  replace c6 := (hb.cell (p := ⟨w.heap.size, 6, none⟩) hl).trans c6
  replace f6 := (hb.frozen (p := ⟨w.heap.size, 6, none⟩) hl).trans f6
  have hB3 := bstep hB2 hb
  replace S1 := hide ((unhide S1).below hb)
  replace hl := Nat.lt_of_lt_of_le hl hb.size
  clear hb
  refine (unhide HFr W3 hB3).mono ?_
  rintro e w3 ⟨vf, rfl, hO, hb⟩
  obtain ⟨fo, fc, rfl, _⟩ := hO.shape
  clear hO
  replace c0 := (hb.cell (p := ⟨w.heap.size, 0, none⟩) hl).trans c0
  replace f0 := (hb.frozen (p := ⟨w.heap.size, 0, none⟩) hl).trans f0
  replace c1 := (hb.cell (p := ⟨w.heap.size, 1, none⟩) hl).trans c1
  replace f1 := (hb.frozen (p := ⟨w.heap.size, 1, none⟩) hl).trans f1
  replace c2 := (hb.cell (p := ⟨w.heap.size, 2, none⟩) hl).trans c2
  replace f2 := (hb.frozen (p := ⟨w.heap.size, 2, none⟩) hl).trans f2
  replace c3 := (hb.cell (p := ⟨w.heap.size, 3, none⟩) hl).trans c3
  replace f3 := (hb.frozen (p := ⟨w.heap.size, 3, none⟩) hl).trans f3
  replace c4 := (hb.cell (p := ⟨w.heap.size, 4, none⟩) hl).trans c4
  replace f4 := (hb.frozen (p := ⟨w.heap.size, 4, none⟩) hl).trans f4
  replace c5 := (hb.cell (p := ⟨w.heap.size, 5, none⟩) hl).trans c5
  replace f5 := (hb.frozen (p := ⟨w.heap.size, 5, none⟩) hl).trans f5
  replace c6 := (hb.cell (p := ⟨w.heap.size, 6, none⟩) hl).trans c6
  replace f6 := (hb.frozen (p := ⟨w.heap.size, 6, none⟩) hl).trans f6
  replace d0 := (hb.cell (p := ⟨w2.heap.size, 0, none⟩) hlG).trans d0
  replace d1 := (hb.cell (p := ⟨w2.heap.size, 1, none⟩) hlG).trans d1
  replace d2 := (hb.cell (p := ⟨w2.heap.size, 2, none⟩) hlG).trans d2
  replace d3 := (hb.cell (p := ⟨w2.heap.size, 3, none⟩) hlG).trans d3
  replace d4 := (hb.cell (p := ⟨w2.heap.size, 4, none⟩) hlG).trans d4
  replace hlG := Nat.lt_of_lt_of_le hlG hb.size
  have hB4 := bstep hB3 hb
  replace S1 := hide ((unhide S1).below hb)
  replace hl := Nat.lt_of_lt_of_le hl hb.size
  clear hb HFr hB3
  have hnews := unhide HAt (w3.alloc (Obj.cells #[] 98)) (bstep hB4 (cell_below _ _))
  go_wp2_with (at_builtin; refine wpList_append_own _ rfl _ _ 41 rfl w3.heap.size 98 i0 _ 3 32 Try.underlying41 hi hz0 hz1 hz2 rfl (by decide) _ _ _ rfl (World.ownsRow_made w3 #[] 0 (Nat.le_refl _) (by simp [maxLen]) rfl) ⟨b, off, none⟩ t.length cap (flat t) rfl (flat_length t) hnews (flat_one5 t) ?s3 ?s4 ?s5 ?_)
  case s3 => unfold maxLen; omega
  case s4 => omega
  case s5 => simp
  intro u2 w4 ho1 hG1 _
  have hO2 : OwnC w4 w3.heap.size u2 t := by unfold OwnC; simpa using ho1
  have hb : Below w3.heap.size w3 w4 := ((Below.refl _ w3).alloc (Nat.le_refl _) _).grown hG1 (by simp) (fun k e => by simp [Value.ownBlock] at e; omega)
  obtain ⟨a2, k2, rfl, _⟩ := hO2.shape
  clear ho1 hG1 hnews
  have S2 := hide (show Sup w3.heap.size w4 (fun V => SlC V (.slice a2 t.length k2) t) from fun V hk => SegC.slC (lo := w3.heap.size) (hi := w4.heap.size) ⟨own_block hO2 (fun j e => hk j (hO2.lt j e).1 (hO2.lt j e).2), fun j e => (hO2.lt j e).2⟩)
  replace c0 := (hb.cell (p := ⟨w.heap.size, 0, none⟩) hl).trans c0
  replace f0 := (hb.frozen (p := ⟨w.heap.size, 0, none⟩) hl).trans f0
  replace c1 := (hb.cell (p := ⟨w.heap.size, 1, none⟩) hl).trans c1
  replace f1 := (hb.frozen (p := ⟨w.heap.size, 1, none⟩) hl).trans f1
  replace c2 := (hb.cell (p := ⟨w.heap.size, 2, none⟩) hl).trans c2
  replace f2 := (hb.frozen (p := ⟨w.heap.size, 2, none⟩) hl).trans f2
  replace c3 := (hb.cell (p := ⟨w.heap.size, 3, none⟩) hl).trans c3
  replace f3 := (hb.frozen (p := ⟨w.heap.size, 3, none⟩) hl).trans f3
  replace c4 := (hb.cell (p := ⟨w.heap.size, 4, none⟩) hl).trans c4
  replace f4 := (hb.frozen (p := ⟨w.heap.size, 4, none⟩) hl).trans f4
  replace c5 := (hb.cell (p := ⟨w.heap.size, 5, none⟩) hl).trans c5
  replace f5 := (hb.frozen (p := ⟨w.heap.size, 5, none⟩) hl).trans f5
  replace c6 := (hb.cell (p := ⟨w.heap.size, 6, none⟩) hl).trans c6
  replace f6 := (hb.frozen (p := ⟨w.heap.size, 6, none⟩) hl).trans f6
  replace d0 := (hb.cell (p := ⟨w2.heap.size, 0, none⟩) hlG).trans d0
  replace d1 := (hb.cell (p := ⟨w2.heap.size, 1, none⟩) hlG).trans d1
  replace d2 := (hb.cell (p := ⟨w2.heap.size, 2, none⟩) hlG).trans d2
  replace d3 := (hb.cell (p := ⟨w2.heap.size, 3, none⟩) hlG).trans d3
  replace d4 := (hb.cell (p := ⟨w2.heap.size, 4, none⟩) hlG).trans d4
  replace hlG := Nat.lt_of_lt_of_le hlG hb.size
  have hB5 := bstep hB4 hb
  replace S1 := hide ((unhide S1).below hb)
  have hw3 : w.heap.size < w3.heap.size := hl
  have hne : w2.heap.size ≠ w.heap.size := by omega
  clear hb hO2 HAt hB4 hB2 hB1
  go_wp2
  exact bodyPost_ret (v := .agg #[.int .i64 1, .slice (some ⟨w2.heap.size, 0, none⟩) 1 1, .slice none 0 0, .int .i64 ((freeOf t).length : Int), .slice none 0 0, .slice a2 t.length k2, .slice none 0 0]) (by simp [results, Try.results17, go_sem, *]) rfl
    ⟨_, rfl, ⟨w2.heap.size, 1, .slice a1 t.length k1, .slice a2 t.length k2, none, none, none, 0, 0, 0, rfl, Nat.le_refl _, by unfold maxLen; omega, (set_far (set_far (set_far (set_far (set_far (set_far (set_far d0 hne) hne) hne) hne) hne) hne) hne), (set_far (set_far (set_far (set_far (set_far (set_far (set_far d1 hne) hne) hne) hne) hne) hne) hne), ⟨_, _, (set_far (set_far (set_far (set_far (set_far (set_far (set_far d2 hne) hne) hne) hne) hne) hne) hne)⟩, ⟨_, _, (set_far (set_far (set_far (set_far (set_far (set_far (set_far d3 hne) hne) hne) hne) hne) hne) hne)⟩, (set_far (set_far (set_far (set_far (set_far (set_far (set_far d4 hne) hne) hne) hne) hne) hne) hne), (Sup.set (Sup.set (Sup.set (Sup.set (Sup.set (Sup.set (Sup.set (unhide S1) (by omega)) (by omega)) (by omega)) (by omega)) (by omega)) (by omega)) (by omega)).here, (Sup.set (Sup.set (Sup.set (Sup.set (Sup.set (Sup.set (Sup.set (unhide S2) (by omega)) (by omega)) (by omega)) (by omega)) (by omega)) (by omega)) (by omega)).here⟩, (Below.setCell (Below.setCell (Below.setCell (Below.setCell (Below.setCell (Below.setCell (Below.setCell hB5 (p := ⟨w.heap.size, 0, none⟩) (Nat.le_refl _) _) (p := ⟨w.heap.size, 1, none⟩) (Nat.le_refl _) _) (p := ⟨w.heap.size, 2, none⟩) (Nat.le_refl _) _) (p := ⟨w.heap.size, 3, none⟩) (Nat.le_refl _) _) (p := ⟨w.heap.size, 4, none⟩) (Nat.le_refl _) _) (p := ⟨w.heap.size, 5, none⟩) (Nat.le_refl _) _) (p := ⟨w.heap.size, 6, none⟩) (Nat.le_refl _) _)⟩
end Go.Proofs.Ytkedckmpjedjoaa
