import Derived.Test.YtonpahhcfgdeoaaDoorQOK3
import Derived.Test.YtonpahhcfgdeoaaDoorQPB4PB5SB2SB3
import Derived.Test.YtonpahhcfgdeoaaDoorQW5W10
import Derived.Test.YtonpahhcfgdeoaaDoorQYS1YX1YB4W6W14YB5YT0
import Derived.Deep.RegionHeld3
import Derived.Test.YtonpahhcfgdeoaaDoorQPlainW1MemMem2Mem3W9
/- The laws' helpers over outcomes, the walk of FnExactOutOk. -/
namespace Go.Proofs.YtonpahhcfgdeoaaDoor
open Go.RowKit
set_option linter.unusedVariables false
set_option linter.unusedSimpArgs false

set_option maxRecDepth 100000 in
set_option maxHeartbeats 400000 in
theorem eqSlvOut_yes (v : Int) (ao bo : Option Addr) (cap cap' : Nat) (t : List C) (w : World) (hm : t.length ≤ maxLen) (hA : Row w ao t) (hU : Row w bo t) :
    Calls Tryd.prog 21 #[.agg #[.int .i64 v, .slice ao t.length cap], .agg #[.int .i64 v, .slice bo t.length cap']] w fun e w' => e = .returned (.bool true) ∧ Below w.heap.size w w' := by
  have hne : (v != v) = false := by simp
  go_enter Tryd.func21, Tryd.ntmps21
  go_wp2_with fail
  refine (eqTrmCellS_any ao bo cap cap' t t _ hm (hA.below (below2 _ _ _)) (hU.below (below2 _ _ _))).mono ?_
  rw [sameS_yes rfl]
  rintro e w1 ⟨rfl, hb1⟩
  have hB := bstep (below2 _ _ _) hb1
  go_wp2
  go_ret
  exact ⟨rfl, hB⟩



theorem out_own {w : World} {base g : Nat} {t : List C} (h : w.ownsRow base 55 3 (.slice (some ⟨g, 0, none⟩) t.length t.length) t.length (flat t)) (hF : Fit t) (hw : WfC t) (hl : t.length ≤ 1048576) : OutM w (some ⟨g, 0, none⟩) t.length t :=
  ⟨row_of_own h, hF, hw, hl, Nat.le_refl _, by unfold maxLen; omega⟩
theorem out_td {w : World} {base g : Nat} {t : List C} (h : w.ownsRow base 55 3 (.slice (some ⟨g, 0, none⟩) t.length t.length) t.length (flat t)) : trm t = true → TdT w (.slice (some ⟨g, 0, none⟩) t.length t.length) t :=
  fun ht => own_tdT (base := base) h (trm_len ht).1

end Go.Proofs.YtonpahhcfgdeoaaDoor

/- Messages in memory: the laws' szMsgMsg, toMsgMsg, eqMsgMsg. -/
namespace Go.Proofs.YtonpahhcfgdeoaaDoor
open Go.RowKit
set_option linter.unusedVariables false
set_option linter.unusedSimpArgs false

theorem six_cells {w : World} {B : Nat} {a0 a1 a2 a3 a4 a5 : Value} {T : TypeId} (h : w.heap[B]? = some (.cells #[a0, a1, a2, a3, a4, a5] T (0, 0))) :
    w.cell? ⟨B, 0, none⟩ = some a0 ∧ w.cell? ⟨B, 1, none⟩ = some a1 ∧ w.cell? ⟨B, 2, none⟩ = some a2 ∧ w.cell? ⟨B, 3, none⟩ = some a3 ∧ w.cell? ⟨B, 4, none⟩ = some a4 ∧ w.cell? ⟨B, 5, none⟩ = some a5 := by
  refine ⟨?_, ?_, ?_, ?_, ?_, ?_⟩ <;> (simp only [World.cell?]; rw [h]; rfl)
theorem six_frozen {w : World} {B : Nat} {a0 a1 a2 a3 a4 a5 : Value} {T : TypeId} (h : w.heap[B]? = some (.cells #[a0, a1, a2, a3, a4, a5] T (0, 0))) :
    w.frozen? ⟨B, 0, none⟩ = false ∧ w.frozen? ⟨B, 1, none⟩ = false ∧ w.frozen? ⟨B, 2, none⟩ = false ∧ w.frozen? ⟨B, 3, none⟩ = false ∧ w.frozen? ⟨B, 4, none⟩ = false ∧ w.frozen? ⟨B, 5, none⟩ = false := by
  refine ⟨?_, ?_, ?_, ?_, ?_, ?_⟩ <;> (simp only [World.frozen?]; rw [h]; rfl)
theorem blk_lt {w : World} {B : Nat} {o : Obj} (h : w.heap[B]? = some o) : B < w.heap.size := (Array.getElem?_eq_some_iff.1 h).1
theorem blk_below {w w' : World} {B : Nat} {o : Obj} (h : w.heap[B]? = some o) (hb : Below w.heap.size w w') : w'.heap[B]? = some o := (hb.block B (blk_lt h)).trans h
theorem blk_alloc {w : World} {B : Nat} {o : Obj} (h : w.heap[B]? = some o) (o' : Obj) : (w.alloc o').heap[B]? = some o := blk_below h (cell_below _ _)
theorem blk_set {w : World} {B : Nat} {o : Obj} (h : w.heap[B]? = some o) {p : Addr} (hp : B ≠ p.block) (v : Value) : (w.setCell p v).heap[B]? = some o := (Below.heap_setCell w p v B hp).trans h

/-- A message as a value. -/
def mV (k f n st : Int) (xa ya : Option Addr) (xl xc yl yc : Nat) : Value := .agg #[.int .i64 k, .int .i64 f, .slice xa xl xc, .int .i64 n, .int .i64 st, .slice ya yl yc]

set_option maxRecDepth 100000 in
set_option maxHeartbeats 1000000 in
theorem eqMsgMsg_yes (k f n st : Int) (xa ya xa' ya' : Option Addr) (xc yc xc' yc' : Nat) (t u : List C) (w : World) (ht : t.length ≤ 1048576) (hu : u.length ≤ 1048576) (hA : Row w xa t) (hB : Row w ya u) (hA' : Row w xa' t) (hB' : Row w ya' u) :
    Calls Tryd.prog 7 #[mV k f n st xa ya t.length xc u.length yc, mV k f n st xa' ya' t.length xc' u.length yc'] w fun e w' => e = .returned (.bool true) ∧ Below w.heap.size w w' := by
  unfold mV
  have hkk : (k != k) = false := by simp
  have hff : (f != f) = false := by simp
  have hnn : (n != n) = false := by simp
  go_enter Tryd.func7, Tryd.ntmps7
  go_wp2_with fail
  obtain ⟨W, hW⟩ : ∃ W, W = (w.alloc (Obj.cells #[Value.int IntKind.i64 k, Value.int IntKind.i64 f, .slice xa t.length xc, Value.int IntKind.i64 n, Value.int IntKind.i64 st, .slice ya u.length yc] 27)).alloc (Obj.cells #[Value.int IntKind.i64 k, Value.int IntKind.i64 f, .slice xa' t.length xc', Value.int IntKind.i64 n, Value.int IntKind.i64 st, .slice ya' u.length yc'] 27) := ⟨_, rfl⟩
  have hB0 : Below w.heap.size w W := by rw [hW]; exact below2 _ _ _
  have hX : W.heap[w.heap.size]? = some (.cells #[Value.int IntKind.i64 k, Value.int IntKind.i64 f, .slice xa t.length xc, Value.int IntKind.i64 n, Value.int IntKind.i64 st, .slice ya u.length yc] 27 (0, 0)) := by
    rw [hW]
    exact blk_alloc (heap_alloc_new w _) _
  have hZ : W.heap[w.heap.size + 1]? = some (.cells #[Value.int IntKind.i64 k, Value.int IntKind.i64 f, .slice xa' t.length xc', Value.int IntKind.i64 n, Value.int IntKind.i64 st, .slice ya' u.length yc'] 27 (0, 0)) := by
    rw [hW]
    have := heap_alloc_new (w.alloc (Obj.cells #[Value.int IntKind.i64 k, Value.int IntKind.i64 f, .slice xa t.length xc, Value.int IntKind.i64 n, Value.int IntKind.i64 st, .slice ya u.length yc] 27)) (Obj.cells #[Value.int IntKind.i64 k, Value.int IntKind.i64 f, .slice xa' t.length xc', Value.int IntKind.i64 n, Value.int IntKind.i64 st, .slice ya' u.length yc'] 27)
    rwa [World.size_alloc] at this
  rw [← hW]
  clear hW
  refine (eqTrmCellS_any xa xa' xc xc' t t W (by unfold maxLen; omega) (hA.below hB0) (hA'.below hB0)).mono ?_
  rw [sameS_yes rfl]
  rintro e w1 ⟨rfl, hb1⟩
  replace hX := blk_below hX hb1
  replace hZ := blk_below hZ hb1
  have hB1 := bstep hB0 hb1
  obtain ⟨_, _, _, x3, x4, x5⟩ := six_cells hX
  obtain ⟨_, _, _, z3, z4, z5⟩ := six_cells hZ
  clear hX hZ hb1 hB0
  go_wp2_with fail
  refine (eqSlvOut_yes st ya ya' yc yc' u w1 (by unfold maxLen; omega) (hB.below hB1) (hB'.below hB1)).mono ?_
  rintro e w2 ⟨rfl, hb2⟩
  have hB2 := bstep hB1 hb2
  go_wp2
  go_ret
  exact ⟨rfl, hB2⟩
end Go.Proofs.YtonpahhcfgdeoaaDoor

/- MsgOk of the program and of the specification. -/
namespace Go.Proofs.YtonpahhcfgdeoaaDoor
open Go.RowKit
set_option linter.unusedVariables false
set_option linter.unusedSimpArgs false

def askB (k f st : Int) (u : List C) : Bool := decide (k = 1) && decide (0 ≤ f) && decide (f ≤ 3) && decide (st = 0) && decide (u.length = 0)
def tellB (k f st : Int) (t u : List C) (r : Bool) : Bool := decide (k = 2) && decide (f = 0) && outB st t u r
def msgB (k f n st : Int) (t u : List C) (r : Bool) : Bool := isQ t && decide (1 ≤ n) && decide (n ≤ 12000) && (askB k f st u || tellB k f st t u r)

theorem two_blk {w : World} {B : Nat} {a0 a1 : Value} {T : TypeId} (h : w.heap[B]? = some (.cells #[a0, a1] T (0, 0))) :
    w.cell? ⟨B, 0, none⟩ = some a0 ∧ w.cell? ⟨B, 1, none⟩ = some a1 ∧ w.frozen? ⟨B, 0, none⟩ = false ∧ w.frozen? ⟨B, 1, none⟩ = false := by
  refine ⟨?_, ?_, ?_, ?_⟩ <;> (simp only [World.cell?, World.frozen?]; rw [h]; rfl)
theorem three_blk {w : World} {B : Nat} {a0 a1 a2 : Value} {T : TypeId} (h : w.heap[B]? = some (.cells #[a0, a1, a2] T (0, 0))) :
    w.cell? ⟨B, 0, none⟩ = some a0 ∧ w.cell? ⟨B, 1, none⟩ = some a1 ∧ w.cell? ⟨B, 2, none⟩ = some a2 ∧ w.frozen? ⟨B, 0, none⟩ = false ∧ w.frozen? ⟨B, 1, none⟩ = false ∧ w.frozen? ⟨B, 2, none⟩ = false := by
  refine ⟨?_, ?_, ?_, ?_, ?_, ?_⟩ <;> (simp only [World.cell?, World.frozen?]; rw [h]; rfl)

/-- What askerOf tells: whether it is given. -/
def GivI (w : World) (b : Bool) (e : Ending) (w' : World) : Prop := ∃ x : Int, e = .returned (.agg #[.int .i64 x, .bool b]) ∧ Below w.heap.size w w'
theorem givI_mk {w w' : World} {b : Bool} {x : Int} (h : Below w.heap.size w w') : GivI w b (.returned (.agg #[.int .i64 x, .bool b])) w' := ⟨x, rfl, h⟩
def GivO (w : World) (b : Bool) (e : Ending) (w' : World) : Prop := ∃ (x : Int) (v : Value), e = .returned (.agg #[.int .i64 x, v, .bool b]) ∧ Below w.heap.size w w'
theorem givO_mk {w w' : World} {b : Bool} {x : Int} {v : Value} (h : Below w.heap.size w w') : GivO w b (.returned (.agg #[.int .i64 x, v, .bool b])) w' := ⟨x, v, rfl, h⟩

set_option maxRecDepth 100000 in
set_option maxHeartbeats 1000000 in
theorem someInt_any (x : Int) (w : World) :
    Calls Tryd.prog 58 #[.int .i64 x] w fun e w' => e = .returned (.agg #[.int .i64 x, .bool true]) ∧ Below w.heap.size w w' := by
  go_enter Tryd.func58, Tryd.ntmps58
  go_wp2
  exact bodyPost_ret (v := .agg #[.int .i64 x, .bool true]) (by simp [results, Tryd.results58, go_sem]) rfl ⟨rfl, cell_below _ _⟩
set_option maxRecDepth 100000 in
set_option maxHeartbeats 1000000 in
theorem someOut_any (st : Int) (ya : Option Addr) (yl yc : Nat) (w : World) :
    Calls Tryd.prog 60 #[.agg #[.int .i64 st, .slice ya yl yc]] w fun e w' => e = .returned (.agg #[.int .i64 st, .slice ya yl yc, .bool true]) ∧ Below w.heap.size w w' := by
  go_enter Tryd.func60, Tryd.ntmps60
  go_wp2
  exact bodyPost_ret (v := .agg #[.int .i64 st, .slice ya yl yc, .bool true]) (by simp [results, Tryd.results60, go_sem]) rfl ⟨rfl, below2 _ _ _⟩

set_option maxRecDepth 100000 in
set_option maxHeartbeats 2000000 in
theorem askerOf_any (k f n st : Int) (xa ya : Option Addr) (xc yc : Nat) (t u : List C) (w : World) (hu : u.length ≤ 1048576) :
    Calls Tryd.prog 41 #[mV k f n st xa ya t.length xc u.length yc] w (GivI w (askB k f st u)) := by
  unfold mV
  by_cases h1 : ¬ k = 1
  · have hb1 : (k != 1) = true := by simpa using h1
    have HE : Hid (askB k f st u = false) := by show askB k f st u = false; simp [askB, h1]
    rw [unhide HE]
    clear HE
    go_enter Tryd.func41, Tryd.ntmps41
    go_wp2
    exact bodyPost_ret (v := .agg #[.int .i64 0, .bool false]) (by simp [results, Tryd.results41, go_sem]) rfl (givI_mk (below2 _ _ _))
  replace h1 : k = 1 := by omega
  have hb1 : (k != 1) = false := by simpa using h1
  by_cases h2 : f < 0
  · have HE : Hid (askB k f st u = false) := by show askB k f st u = false; simp [askB]; omega
    rw [unhide HE]
    clear HE
    go_enter Tryd.func41, Tryd.ntmps41
    go_wp2
    exact bodyPost_ret (v := .agg #[.int .i64 0, .bool false]) (by simp [results, Tryd.results41, go_sem]) rfl (givI_mk (below2 _ _ _))
  by_cases h3 : 3 < f
  · have HE : Hid (askB k f st u = false) := by show askB k f st u = false; simp [askB]; omega
    rw [unhide HE]
    clear HE
    go_enter Tryd.func41, Tryd.ntmps41
    go_wp2
    exact bodyPost_ret (v := .agg #[.int .i64 0, .bool false]) (by simp [results, Tryd.results41, go_sem]) rfl (givI_mk (below2 _ _ _))
  by_cases h4 : ¬ st = 0
  · have hb4 : (st != 0) = true := by simpa using h4
    have HE : Hid (askB k f st u = false) := by show askB k f st u = false; simp [askB, h4]
    rw [unhide HE]
    clear HE
    go_enter Tryd.func41, Tryd.ntmps41
    go_wp2
    exact bodyPost_ret (v := .agg #[.int .i64 0, .bool false]) (by simp [results, Tryd.results41, go_sem]) rfl (givI_mk (below2 _ _ _))
  replace h4 : st = 0 := by omega
  have hb4 : (st != 0) = false := by simpa using h4
  by_cases h5 : 0 < u.length
  · have HE : Hid (askB k f st u = false) := by show askB k f st u = false; simp [askB]; intros; intro e; simp [e] at h5
    rw [unhide HE]
    clear HE
    go_enter Tryd.func41, Tryd.ntmps41
    go_wp2
    exact bodyPost_ret (v := .agg #[.int .i64 0, .bool false]) (by simp [results, Tryd.results41, go_sem]) rfl (givI_mk (below2 _ _ _))
  have h5' : u = [] := List.length_eq_zero_iff.1 (by omega)
  have HE : Hid (askB k f st u = true) := by show askB k f st u = true; subst h5' h1 h4; simp [askB]; omega
  rw [unhide HE]
  clear HE
  subst h5' h1 h4
  go_enter Tryd.func41, Tryd.ntmps41
  go_wp2_with fail
  refine (someInt_any f _).mono ?_
  rintro e w1 ⟨rfl, hb⟩
  obtain ⟨W, hW⟩ : ∃ W, W = (w.alloc (Obj.cells #[Value.int IntKind.i64 1, Value.int IntKind.i64 f, Value.slice xa t.length xc, Value.int IntKind.i64 n, Value.int IntKind.i64 0, Value.slice ya 0 yc] 27)).alloc (Obj.cells #[Value.int IntKind.i64 0, Value.bool false] 68) := ⟨_, rfl⟩
  replace hb : Below W.heap.size W w1 := by rw [hW]; exact hb
  have hB0 : Below w.heap.size w W := by rw [hW]; exact below2 _ _ _
  have hZ : W.heap[w.heap.size + 1]? = some (.cells #[Value.int IntKind.i64 0, Value.bool false] 68 (0, 0)) := by
    rw [hW]
    have := heap_alloc_new (w.alloc (Obj.cells #[Value.int IntKind.i64 1, Value.int IntKind.i64 f, Value.slice xa t.length xc, Value.int IntKind.i64 n, Value.int IntKind.i64 0, Value.slice ya 0 yc] 27)) (Obj.cells #[Value.int IntKind.i64 0, Value.bool false] 68)
    rwa [World.size_alloc] at this
  replace hZ := blk_below hZ hb
  have hB1 := bstep hB0 hb
  obtain ⟨z0, z1, zf0, zf1⟩ := two_blk hZ
  clear hW hB0 hb hZ
  go_wp2
  refine bodyPost_ret (v := .agg #[.int .i64 f, .bool true]) (by simp [results, Tryd.results41, go_sem, *]) rfl (givI_mk ?_)
  exact (hB1.setCell (p := ⟨w.heap.size + 1, 0, none⟩) (by simp) _).setCell (p := ⟨w.heap.size + 1, 1, none⟩) (by simp) _

set_option maxRecDepth 100000 in
set_option maxHeartbeats 2000000 in
theorem toldBy_any (k f n st : Int) (xa ya : Option Addr) (xc yc : Nat) (t u : List C) (r : Bool) (w : World) (hT : OutM w xa xc t) (hU : OutM w ya yc u) (hr : CanB t u r) :
    Calls Tryd.prog 42 #[mV k f n st xa ya t.length xc u.length yc] w (GivO w (tellB k f st t u r)) := by
  unfold mV
  have HR := hide hr
  clear hr
  by_cases h1 : ¬ k = 2
  · have hb1 : (k != 2) = true := by simpa using h1
    clear hT hU HR
    have HE : Hid (tellB k f st t u r = false) := by show tellB k f st t u r = false; simp [tellB, h1]
    rw [unhide HE]
    clear HE
    go_enter Tryd.func42, Tryd.ntmps42
    go_wp2
    exact bodyPost_ret (v := .agg #[.int .i64 0, .slice none 0 0, .bool false]) (by simp [results, Tryd.results42, go_sem]) rfl (givO_mk (below2 _ _ _))
  replace h1 : k = 2 := by omega
  have hb1 : (k != 2) = false := by simpa using h1
  by_cases h2 : ¬ f = 0
  · have hb2 : (f != 0) = true := by simpa using h2
    clear hT hU HR
    have HE : Hid (tellB k f st t u r = false) := by show tellB k f st t u r = false; simp [tellB, h2]
    rw [unhide HE]
    clear HE
    go_enter Tryd.func42, Tryd.ntmps42
    go_wp2
    exact bodyPost_ret (v := .agg #[.int .i64 0, .slice none 0 0, .bool false]) (by simp [results, Tryd.results42, go_sem]) rfl (givO_mk (below2 _ _ _))
  replace h2 : f = 0 := by omega
  have hb2 : (f != 0) = false := by simpa using h2
  have HE : Hid (tellB k f st t u r = outB st t u r) := by show tellB k f st t u r = outB st t u r; simp [tellB, h1, h2]
  rw [unhide HE]
  clear HE
  subst h1 h2
  obtain ⟨W, hW⟩ : ∃ W, W = (w.alloc (Obj.cells #[Value.int IntKind.i64 2, Value.int IntKind.i64 0, Value.slice xa t.length xc, Value.int IntKind.i64 n, Value.int IntKind.i64 st, Value.slice ya u.length yc] 27)).alloc (Obj.cells #[Value.int IntKind.i64 0, Value.slice none 0 0, Value.bool false] 71) := ⟨_, rfl⟩
  have hB0 : Below w.heap.size w W := by rw [hW]; exact below2 _ _ _
  have hX : W.heap[w.heap.size]? = some (.cells #[Value.int IntKind.i64 2, Value.int IntKind.i64 0, Value.slice xa t.length xc, Value.int IntKind.i64 n, Value.int IntKind.i64 st, Value.slice ya u.length yc] 27 (0, 0)) := by
    rw [hW]
    exact blk_alloc (heap_alloc_new w _) _
  have hZ : W.heap[w.heap.size + 1]? = some (.cells #[Value.int IntKind.i64 0, Value.slice none 0 0, Value.bool false] 71 (0, 0)) := by
    rw [hW]
    have := heap_alloc_new (w.alloc (Obj.cells #[Value.int IntKind.i64 2, Value.int IntKind.i64 0, Value.slice xa t.length xc, Value.int IntKind.i64 n, Value.int IntKind.i64 st, Value.slice ya u.length yc] 27)) (Obj.cells #[Value.int IntKind.i64 0, Value.slice none 0 0, Value.bool false] 71)
    rwa [World.size_alloc] at this
  have HO := hide (implOutOk_any st xa ya xc yc t u r W (hT.below hB0) (hU.below hB0) (unhide HR))
  clear hT hU HR
  go_enter Tryd.func42, Tryd.ntmps42
  go_wp2_with fail
  rw [← hW]
  clear hW
  refine (unhide HO).mono ?_
  rintro e w1 ⟨rfl, hb1⟩
  have hB1 := bstep hB0 hb1
  replace hX := blk_below hX hb1
  replace hZ := blk_below hZ hb1
  obtain ⟨z0, z1, z2, zf0, zf1, zf2⟩ := three_blk hZ
  have HZ := hide hZ
  cases ho : outB st t u r with
  | false =>
    have HOO := hide ho
    clear hX hZ ho HO hB0 hb1
    go_wp2
    refine bodyPost_ret (v := .agg #[.int .i64 0, .slice none 0 0, .bool false]) (by simp [results, Tryd.results42, go_sem, *]) rfl ?_
    rw [unhide HOO]
    refine givO_mk ?_
    exact ((hB1.setCell (p := ⟨w.heap.size + 1, 0, none⟩) (by simp) _).setCell (p := ⟨w.heap.size + 1, 1, none⟩) (by simp) _).setCell (p := ⟨w.heap.size + 1, 2, none⟩) (by simp) _
  | true =>
    have HOO := hide ho
    obtain ⟨_, _, _, _, x4, x5⟩ := six_cells hX
    clear hX hZ ho HO hB0 hb1 z0 z1 z2 zf0 zf1 zf2
    go_wp2_with fail
    refine (someOut_any st ya u.length yc w1).mono ?_
    rintro e w2 ⟨rfl, hb2⟩
    obtain ⟨z0, z1, z2, zf0, zf1, zf2⟩ := three_blk (blk_below (unhide HZ) hb2)
    have hB2 := bstep hB1 hb2
    clear hB1 hb2
    go_wp2
    refine bodyPost_ret (v := .agg #[.int .i64 st, .slice ya u.length yc, .bool true]) (by simp [results, Tryd.results42, go_sem, *]) rfl ?_
    rw [unhide HOO]
    refine givO_mk ?_
    exact ((hB2.setCell (p := ⟨w.heap.size + 1, 0, none⟩) (by simp) _).setCell (p := ⟨w.heap.size + 1, 1, none⟩) (by simp) _).setCell (p := ⟨w.heap.size + 1, 2, none⟩) (by simp) _
end Go.Proofs.YtonpahhcfgdeoaaDoor
