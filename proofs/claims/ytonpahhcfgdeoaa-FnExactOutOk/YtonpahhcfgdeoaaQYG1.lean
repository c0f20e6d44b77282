/- Messages in memory: the laws' szMsgMsg, toMsgMsg, eqMsgMsg. -/
import Derived.Test.YtonpahhcfgdeoaaQOK4
import Derived.Test.YtonpahhcfgdeoaaQW5
import Derived.Test.YtonpahhcfgdeoaaQW2W3W4W6SB2
namespace Go.Proofs.Ytonpahhcfgdeoaa
open Go.RowKit
set_option linter.unusedVariables false
set_option linter.unusedSimpArgs false

theorem six_cells {w : World} {B : Nat} {a0 a1 a2 a3 a4 a5 : Value} {T : TypeId} (h : w.heap[B]? = some (.cells #[a0, a1, a2, a3, a4, a5] T (0, 0))) :
    w.cell? ⟨B, 0, none⟩ = some a0 ∧ w.cell? ⟨B, 1, none⟩ = some a1 ∧ w.cell? ⟨B, 2, none⟩ = some a2 ∧ w.cell? ⟨B, 3, none⟩ = some a3 ∧ w.cell? ⟨B, 4, none⟩ = some a4 ∧ w.cell? ⟨B, 5, none⟩ = some a5 := by
  refine ⟨?_, ?_, ?_, ?_, ?_, ?_⟩ <;> (simp only [World.cell?]; rw [h]; rfl)
theorem six_frozen {w : World} {B : Nat} {a0 a1 a2 a3 a4 a5 : Value} {T : TypeId} (h : w.heap[B]? = some (.cells #[a0, a1, a2, a3, a4, a5] T (0, 0))) :
    w.frozen? ⟨B, 0, none⟩ = false ∧ w.frozen? ⟨B, 1, none⟩ = false ∧ w.frozen? ⟨B, 2, none⟩ = false ∧ w.frozen? ⟨B, 3, none⟩ = false ∧ w.frozen? ⟨B, 4, none⟩ = false ∧ w.frozen? ⟨B, 5, none⟩ = false := by
  refine ⟨?_, ?_, ?_, ?_, ?_, ?_⟩ <;> (simp only [World.frozen?]; rw [h]; rfl)
theorem blk_lt {w : World} {B : Nat} {o : Obj} (h : w.heap[B]? = some o) : B < w.heap.size := (Array.getElem?_eq_some_iff.1 h).1
theorem blk_below {w w' : World} {B : Nat} {o : Obj} (h : w.heap[B]? = some o) (hb : Below w.heap.size w w') : w'.heap[B]? = some o := (hb.block B (blk_lt h)).trans h
theorem blk_alloc {w : World} {B : Nat} {o : Obj} (h : w.heap[B]? = some o) (o' : Obj) : (w.alloc o').heap[B]? = some o := blk_below h (cell_below _ _)
theorem blk_set {w : World} {B : Nat} {o : Obj} (h : w.heap[B]? = some o) {p : Addr} (hp : B ≠ p.block) (v : Value) : (w.setCell p v).heap[B]? = some o := (Below.heap_setCell w p v B hp).trans h

/-- A message as a value. -/
def mV (k f n st : Int) (xa ya : Option Addr) (xl xc yl yc : Nat) : Value := .agg #[.int .i64 k, .int .i64 f, .slice xa xl xc, .int .i64 n, .int .i64 st, .slice ya yl yc]

set_option maxHeartbeats 1000000 in
theorem szMsgMsg_any (k f n st : Int) (xa ya : Option Addr) (xc yc : Nat) (t u : List C) (l : Int) (w : World) (ht : t.length ≤ maxLen) (hu : u.length ≤ maxLen) (hA : Row w xa t) (hB : Row w ya u) (fA : Fit t) (fB : Fit u) (h0 : 0 ≤ l) (h1 : l ≤ 1048576) :
    Calls Try.prog 15 #[mV k f n st xa ya t.length xc u.length yc, .int .i64 l] w fun e w' => ∃ r : Int, e = .returned (.int .i64 r) ∧ (r < 0 ∨ (0 ≤ r ∧ r + t.length + u.length ≤ l)) ∧ Below w.heap.size w w' := by
  unfold mV
  have hX := heap_alloc_new w (.cells #[.int .i64 k, .int .i64 f, .slice xa t.length xc, .int .i64 n, .int .i64 st, .slice ya u.length yc] 37)
  have hb0 := cell_below w (.cells #[.int .i64 k, .int .i64 f, .slice xa t.length xc, .int .i64 n, .int .i64 st, .slice ya u.length yc] 37)
  go_enter Try.func15, Try.ntmps15
  go_wp2_with fail
  generalize w.alloc (.cells #[.int .i64 k, .int .i64 f, .slice xa t.length xc, .int .i64 n, .int .i64 st, .slice ya u.length yc] 37) = w0 at hX hb0 ⊢
  refine (szTrmCellS_any xa xc t l _ ht (hA.below hb0) fA h0 h1).mono ?_
  rintro e w1 ⟨r, rfl, hr, hb1⟩
  replace hX := blk_below hX hb1
  have hB1 := bstep hb0 hb1
  obtain ⟨_, _, _, _, x4, x5⟩ := six_cells hX
  by_cases hn : r < 0
  · go_wp2
    go_ret
    exact ⟨_, rfl, by omega, hB1⟩
  go_wp2_with fail
  refine (szSlvOut_any st ya yc u r _ hu (hB.below hB1) fB (by omega) (by omega)).mono ?_
  rintro e w2 ⟨r2, rfl, hr2, hb2⟩
  have hB2 := bstep hB1 hb2
  by_cases hn2 : r2 < 0
  · go_wp2
    go_ret
    exact ⟨_, rfl, by omega, hB2⟩
  go_wp2
  go_ret
  exact ⟨_, rfl, by omega, hB2⟩

set_option maxRecDepth 100000 in
set_option maxHeartbeats 1000000 in
theorem toMsgMsg_any (k f n st : Int) (xa ya : Option Addr) (xc yc : Nat) (t u : List C) (w : World) (ht : t.length ≤ 1048576) (hu : u.length ≤ 1048576) (hA : Row w xa t) (hB : Row w ya u) :
    Calls Try.prog 17 #[mV k f n st xa ya t.length xc u.length yc] w fun e w' => ∃ g1 g2, e = .returned (mV k f n st (some ⟨g1, 0, none⟩) (some ⟨g2, 0, none⟩) t.length t.length u.length u.length) ∧ g1 < g2 ∧ w'.ownsRow w.heap.size 67 3 (.slice (some ⟨g1, 0, none⟩) t.length t.length) t.length (flat t) ∧ w'.ownsRow w.heap.size 67 3 (.slice (some ⟨g2, 0, none⟩) u.length u.length) u.length (flat u) ∧ Below w.heap.size w w' := by
  unfold mV
  go_enter Try.func17, Try.ntmps17
  go_wp2_with fail
  obtain ⟨W, hW⟩ : ∃ W, W = ((w.alloc (Obj.cells #[Value.int IntKind.i64 k, Value.int IntKind.i64 f, .slice xa t.length xc, Value.int IntKind.i64 n, Value.int IntKind.i64 st, .slice ya u.length yc] 37)).alloc (Obj.cells #[Value.int IntKind.i64 0, Value.int IntKind.i64 0, Value.slice none 0 0, Value.int IntKind.i64 0, Value.int IntKind.i64 0, Value.slice none 0 0] 41)).alloc (Obj.cells #[Value.int IntKind.i64 k, Value.int IntKind.i64 f, Value.slice none 0 0, Value.int IntKind.i64 0, Value.int IntKind.i64 0, Value.slice none 0 0] 41) := ⟨_, rfl⟩
  have hB0 : Below w.heap.size w W := by rw [hW]; exact below3 _ _ _ _
  have hsz : W.heap.size = w.heap.size + 3 := by rw [hW]; simp
  have hX : W.heap[w.heap.size]? = some (.cells #[Value.int IntKind.i64 k, Value.int IntKind.i64 f, .slice xa t.length xc, Value.int IntKind.i64 n, Value.int IntKind.i64 st, .slice ya u.length yc] 37 (0, 0)) := by
    rw [hW]
    exact blk_alloc (blk_alloc (heap_alloc_new w _) _) _
  have hZ : W.heap[w.heap.size + 1]? = some (.cells #[Value.int IntKind.i64 0, Value.int IntKind.i64 0, Value.slice none 0 0, Value.int IntKind.i64 0, Value.int IntKind.i64 0, Value.slice none 0 0] 41 (0, 0)) := by
    rw [hW]
    refine blk_alloc ?_ _
    have := heap_alloc_new (w.alloc (Obj.cells #[Value.int IntKind.i64 k, Value.int IntKind.i64 f, .slice xa t.length xc, Value.int IntKind.i64 n, Value.int IntKind.i64 st, .slice ya u.length yc] 37)) (Obj.cells #[Value.int IntKind.i64 0, Value.int IntKind.i64 0, Value.slice none 0 0, Value.int IntKind.i64 0, Value.int IntKind.i64 0, Value.slice none 0 0] 41)
    rwa [World.size_alloc] at this
  have hY : W.heap[w.heap.size + 1 + 1]? = some (.cells #[Value.int IntKind.i64 k, Value.int IntKind.i64 f, Value.slice none 0 0, Value.int IntKind.i64 0, Value.int IntKind.i64 0, Value.slice none 0 0] 41 (0, 0)) := by
    rw [hW]
    have := heap_alloc_new ((w.alloc (Obj.cells #[Value.int IntKind.i64 k, Value.int IntKind.i64 f, .slice xa t.length xc, Value.int IntKind.i64 n, Value.int IntKind.i64 st, .slice ya u.length yc] 37)).alloc (Obj.cells #[Value.int IntKind.i64 0, Value.int IntKind.i64 0, Value.slice none 0 0, Value.int IntKind.i64 0, Value.int IntKind.i64 0, Value.slice none 0 0] 41)) (Obj.cells #[Value.int IntKind.i64 k, Value.int IntKind.i64 f, Value.slice none 0 0, Value.int IntKind.i64 0, Value.int IntKind.i64 0, Value.slice none 0 0] 41)
    rwa [World.size_alloc, World.size_alloc] at this
  rw [← hW]
  clear hW
  refine (toTrmCellS_any xa xc t W ht (hA.below hB0)).mono ?_
  rintro e w1 ⟨rfl, ho1, hb1⟩
  replace hX := blk_below hX hb1
  replace hY := blk_below hY hb1
  replace hZ := blk_below hZ hb1
  have hB1 := bstep hB0 hb1
  have hg1 : W.heap.size < w1.heap.size := (ho1.lt _ rfl).2
  obtain ⟨g1, hg⟩ : ∃ g, g = W.heap.size := ⟨_, rfl⟩
  rw [← hg] at ho1 hg1 hsz ⊢
  have hgl : w.heap.size + 1 + 1 < g1 := by omega
  clear hg hb1 hB0 hsz
  obtain ⟨_, _, _, x3, x4, x5⟩ := six_cells hX
  obtain ⟨y0, y1, y2, y3, y4, y5⟩ := six_cells hY
  obtain ⟨yf0, yf1, yf2, yf3, yf4, yf5⟩ := six_frozen hY
  have HX := hide hX
  have HY := hide hY
  have HZ := hide hZ
  clear hX hY hZ
  go_wp2_with fail
  obtain ⟨V, hV⟩ : ∃ V, V = (w1.setCell ⟨w.heap.size + 1 + 1, 2, none⟩ (.slice (some ⟨g1, 0, none⟩) t.length t.length)).setCell ⟨w.heap.size + 1 + 1, 3, none⟩ (.int .i64 n) := ⟨_, rfl⟩
  rw [← hV]
  have hY2 : V.heap[w.heap.size + 1 + 1]? = some (.cells #[Value.int IntKind.i64 k, Value.int IntKind.i64 f, .slice (some ⟨g1, 0, none⟩) t.length t.length, Value.int IntKind.i64 n, Value.int IntKind.i64 0, Value.slice none 0 0] 41 (0, 0)) := by
    rw [hV]
    exact heap_setCell_same _ _ 3 _ _ _ (heap_setCell_same _ _ 2 _ _ _ (unhide HY))
  have hZ2 : V.heap[w.heap.size + 1]? = some (.cells #[Value.int IntKind.i64 0, Value.int IntKind.i64 0, Value.slice none 0 0, Value.int IntKind.i64 0, Value.int IntKind.i64 0, Value.slice none 0 0] 41 (0, 0)) := by
    rw [hV]
    exact blk_set (blk_set (unhide HZ) (by simp) _) (by simp) _
  have hB2 : Below w.heap.size w V := by rw [hV]; exact (hB1.setCell (p := ⟨w.heap.size + 1 + 1, 2, none⟩) (by simp; omega) _).setCell (p := ⟨w.heap.size + 1 + 1, 3, none⟩) (by simp; omega) _
  have ho2 := own_block (w' := V) ho1 (fun k e => by
    have e' : g1 = k := by simpa [Value.ownBlock] using e
    rw [hV, Below.heap_setCell _ _ _ _ (by simp; omega), Below.heap_setCell _ _ _ _ (by simp; omega)])
  have hg2 : g1 < V.heap.size := by rw [hV]; simpa using hg1
  clear hV HX HY HZ x3 x4 x5 y0 y1 y2 y3 y4 y5 yf0 yf1 yf2 yf3 yf4 yf5 ho1 hg1 hB1
  refine (toSlvOut_any st ya yc u V hu (hB.below hB2)).mono ?_
  rintro e w2 ⟨g2, rfl, hg2', ho3, hb2⟩
  have hY3 := blk_below hY2 hb2
  have hZ3 := blk_below hZ2 hb2
  have hB3 := bstep hB2 hb2
  have ho2' := own_below ho2 hb2
  have hg12 : g1 < g2 := by have := (World.ownsRow.lt ho3 g2 rfl).1; omega
  obtain ⟨y0, y1, y2, y3, y4, y5⟩ := six_cells hY3
  obtain ⟨yf0, yf1, yf2, yf3, yf4, yf5⟩ := six_frozen hY3
  obtain ⟨z0, z1, z2, z3, z4, z5⟩ := six_cells hZ3
  obtain ⟨zf0, zf1, zf2, zf3, zf4, zf5⟩ := six_frozen hZ3
  have HO1 := hide ho2'
  have HO2 := hide ho3
  clear hY2 hZ2 hB2 hb2 ho2 ho3 ho2' hY3 hZ3
  go_wp2
  refine bodyPost_ret (v := mV k f n st (some ⟨g1, 0, none⟩) (some ⟨g2, 0, none⟩) t.length t.length u.length u.length) (by simp [mV, results, Try.results17, go_sem, *]) rfl ⟨g1, g2, rfl, hg12, ?_, ?_, ?_⟩
  · refine own_lo (base := g1) (own_block (unhide HO1) (fun k e => ?_)) (fun k e => ?_)
    · have e' : g1 = k := by simpa [Value.ownBlock] using e
      repeat rw [Below.heap_setCell _ _ _ _ (by simp; omega)]
    · have e' : g1 = k := by simpa [Value.ownBlock] using e
      omega
  · refine own_lo (base := V.heap.size) (own_block (unhide HO2) (fun k e => ?_)) (fun k e => ?_)
    · have e' : g2 = k := by simpa [Value.ownBlock] using e
      repeat rw [Below.heap_setCell _ _ _ _ (by simp; omega)]
    · have e' : g2 = k := by simpa [Value.ownBlock] using e
      omega
  · exact (((((((hB3.setCell (p := ⟨w.heap.size + 1 + 1, 4, none⟩) (by simp; omega) _).setCell (p := ⟨w.heap.size + 1 + 1, 5, none⟩) (by simp; omega) _).setCell (p := ⟨w.heap.size + 1, 0, none⟩) (by simp) _).setCell (p := ⟨w.heap.size + 1, 1, none⟩) (by simp) _).setCell (p := ⟨w.heap.size + 1, 2, none⟩) (by simp) _).setCell (p := ⟨w.heap.size + 1, 3, none⟩) (by simp) _).setCell (p := ⟨w.heap.size + 1, 4, none⟩) (by simp) _).setCell (p := ⟨w.heap.size + 1, 5, none⟩) (by simp) _

set_option maxRecDepth 100000 in
set_option maxHeartbeats 1000000 in
theorem eqMsgMsg_yes (k f n st : Int) (xa ya xa' ya' : Option Addr) (xc yc xc' yc' : Nat) (t u : List C) (w : World) (ht : t.length ≤ 1048576) (hu : u.length ≤ 1048576) (hA : Row w xa t) (hB : Row w ya u) (hA' : Row w xa' t) (hB' : Row w ya' u) :
    Calls Try.prog 19 #[mV k f n st xa ya t.length xc u.length yc, mV k f n st xa' ya' t.length xc' u.length yc'] w fun e w' => e = .returned (.bool true) ∧ Below w.heap.size w w' := by
  unfold mV
  have hkk : (k != k) = false := by simp
  have hff : (f != f) = false := by simp
  have hnn : (n != n) = false := by simp
  go_enter Try.func19, Try.ntmps19
  go_wp2_with fail
  obtain ⟨W, hW⟩ : ∃ W, W = (w.alloc (Obj.cells #[Value.int IntKind.i64 k, Value.int IntKind.i64 f, .slice xa t.length xc, Value.int IntKind.i64 n, Value.int IntKind.i64 st, .slice ya u.length yc] 41)).alloc (Obj.cells #[Value.int IntKind.i64 k, Value.int IntKind.i64 f, .slice xa' t.length xc', Value.int IntKind.i64 n, Value.int IntKind.i64 st, .slice ya' u.length yc'] 41) := ⟨_, rfl⟩
  have hB0 : Below w.heap.size w W := by rw [hW]; exact below2 _ _ _
  have hX : W.heap[w.heap.size]? = some (.cells #[Value.int IntKind.i64 k, Value.int IntKind.i64 f, .slice xa t.length xc, Value.int IntKind.i64 n, Value.int IntKind.i64 st, .slice ya u.length yc] 41 (0, 0)) := by
    rw [hW]
    exact blk_alloc (heap_alloc_new w _) _
  have hZ : W.heap[w.heap.size + 1]? = some (.cells #[Value.int IntKind.i64 k, Value.int IntKind.i64 f, .slice xa' t.length xc', Value.int IntKind.i64 n, Value.int IntKind.i64 st, .slice ya' u.length yc'] 41 (0, 0)) := by
    rw [hW]
    have := heap_alloc_new (w.alloc (Obj.cells #[Value.int IntKind.i64 k, Value.int IntKind.i64 f, .slice xa t.length xc, Value.int IntKind.i64 n, Value.int IntKind.i64 st, .slice ya u.length yc] 41)) (Obj.cells #[Value.int IntKind.i64 k, Value.int IntKind.i64 f, .slice xa' t.length xc', Value.int IntKind.i64 n, Value.int IntKind.i64 st, .slice ya' u.length yc'] 41)
    rwa [World.size_alloc] at this
  rw [← hW]
  clear hW
  refine (eqTrmCellS_any xa xa' xc xc' t t W (by unfold maxLen; omega) (hA.below hB0) (hA'.below hB0)).mono ?_
  rw [sameS_yes rfl]
  rintro e w1 ⟨rfl, hb1⟩
  replace hX := blk_below hX hb1
  replace hZ := blk_below hZ hb1
  have hB1 := bstep hB0 hb1
  obtain ⟨_, _, _, x3, x4, x5⟩ := six_cells hX
  obtain ⟨_, _, _, z3, z4, z5⟩ := six_cells hZ
  clear hX hZ hb1 hB0
  go_wp2_with fail
  refine (eqSlvOut_yes st ya ya' yc yc' u w1 (by unfold maxLen; omega) (hB.below hB1) (hB'.below hB1)).mono ?_
  rintro e w2 ⟨rfl, hb2⟩
  have hB2 := bstep hB1 hb2
  go_wp2
  go_ret
  exact ⟨rfl, hB2⟩
end Go.Proofs.Ytonpahhcfgdeoaa
