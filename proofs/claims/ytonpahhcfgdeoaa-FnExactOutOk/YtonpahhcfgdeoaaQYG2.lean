/- MsgOk of the program and of the specification. -/
import Derived.Test.YtonpahhcfgdeoaaQYG1
import Derived.Test.YtonpahhcfgdeoaaQPB4W1
namespace Go.Proofs.Ytonpahhcfgdeoaa
open Go.RowKit
set_option linter.unusedVariables false
set_option linter.unusedSimpArgs false

def askB (k f st : Int) (u : List C) : Bool := decide (k = 1) && decide (0 ≤ f) && decide (f ≤ 3) && decide (st = 0) && decide (u.length = 0)
def tellB (k f st : Int) (t u : List C) (r : Bool) : Bool := decide (k = 2) && decide (f = 0) && outB st t u r
def msgB (k f n st : Int) (t u : List C) (r : Bool) : Bool := isQ t && decide (1 ≤ n) && decide (n ≤ 12000) && (askB k f st u || tellB k f st t u r)

theorem two_blk {w : World} {B : Nat} {a0 a1 : Value} {T : TypeId} (h : w.heap[B]? = some (.cells #[a0, a1] T (0, 0))) :
    w.cell? ⟨B, 0, none⟩ = some a0 ∧ w.cell? ⟨B, 1, none⟩ = some a1 ∧ w.frozen? ⟨B, 0, none⟩ = false ∧ w.frozen? ⟨B, 1, none⟩ = false := by
  refine ⟨?_, ?_, ?_, ?_⟩ <;> (simp only [World.cell?, World.frozen?]; rw [h]; rfl)
theorem three_blk {w : World} {B : Nat} {a0 a1 a2 : Value} {T : TypeId} (h : w.heap[B]? = some (.cells #[a0, a1, a2] T (0, 0))) :
    w.cell? ⟨B, 0, none⟩ = some a0 ∧ w.cell? ⟨B, 1, none⟩ = some a1 ∧ w.cell? ⟨B, 2, none⟩ = some a2 ∧ w.frozen? ⟨B, 0, none⟩ = false ∧ w.frozen? ⟨B, 1, none⟩ = false ∧ w.frozen? ⟨B, 2, none⟩ = false := by
  refine ⟨?_, ?_, ?_, ?_, ?_, ?_⟩ <;> (simp only [World.cell?, World.frozen?]; rw [h]; rfl)

/-- What askerOf tells: whether it is given. -/
def GivI (w : World) (b : Bool) (e : Ending) (w' : World) : Prop := ∃ x : Int, e = .returned (.agg #[.int .i64 x, .bool b]) ∧ Below w.heap.size w w'
theorem givI_mk {w w' : World} {b : Bool} {x : Int} (h : Below w.heap.size w w') : GivI w b (.returned (.agg #[.int .i64 x, .bool b])) w' := ⟨x, rfl, h⟩
def GivO (w : World) (b : Bool) (e : Ending) (w' : World) : Prop := ∃ (x : Int) (v : Value), e = .returned (.agg #[.int .i64 x, v, .bool b]) ∧ Below w.heap.size w w'
theorem givO_mk {w w' : World} {b : Bool} {x : Int} {v : Value} (h : Below w.heap.size w w') : GivO w b (.returned (.agg #[.int .i64 x, v, .bool b])) w' := ⟨x, v, rfl, h⟩

set_option maxRecDepth 100000 in
set_option maxHeartbeats 1000000 in
theorem someInt_any (x : Int) (w : World) :
    Calls Try.prog 70 #[.int .i64 x] w fun e w' => e = .returned (.agg #[.int .i64 x, .bool true]) ∧ Below w.heap.size w w' := by
  go_enter Try.func70, Try.ntmps70
  go_wp2
  exact bodyPost_ret (v := .agg #[.int .i64 x, .bool true]) (by simp [results, Try.results70, go_sem]) rfl ⟨rfl, cell_below _ _⟩
set_option maxRecDepth 100000 in
set_option maxHeartbeats 1000000 in
theorem someOut_any (st : Int) (ya : Option Addr) (yl yc : Nat) (w : World) :
    Calls Try.prog 71 #[.agg #[.int .i64 st, .slice ya yl yc]] w fun e w' => e = .returned (.agg #[.int .i64 st, .slice ya yl yc, .bool true]) ∧ Below w.heap.size w w' := by
  go_enter Try.func71, Try.ntmps71
  go_wp2
  exact bodyPost_ret (v := .agg #[.int .i64 st, .slice ya yl yc, .bool true]) (by simp [results, Try.results71, go_sem]) rfl ⟨rfl, below2 _ _ _⟩

set_option maxRecDepth 100000 in
set_option maxHeartbeats 2000000 in
theorem askerOf_any (k f n st : Int) (xa ya : Option Addr) (xc yc : Nat) (t u : List C) (w : World) (hu : u.length ≤ 1048576) :
    Calls Try.prog 43 #[mV k f n st xa ya t.length xc u.length yc] w (GivI w (askB k f st u)) := by
  unfold mV
  by_cases h1 : ¬ k = 1
  · have hb1 : (k != 1) = true := by simpa using h1
    have HE : Hid (askB k f st u = false) := by show askB k f st u = false; simp [askB, h1]
    rw [unhide HE]
    clear HE
    go_enter Try.func43, Try.ntmps43
    go_wp2
    exact bodyPost_ret (v := .agg #[.int .i64 0, .bool false]) (by simp [results, Try.results43, go_sem]) rfl (givI_mk (below2 _ _ _))
  replace h1 : k = 1 := by omega
  have hb1 : (k != 1) = false := by simpa using h1
  by_cases h2 : f < 0
  · have HE : Hid (askB k f st u = false) := by show askB k f st u = false; simp [askB]; omega
    rw [unhide HE]
    clear HE
    go_enter Try.func43, Try.ntmps43
    go_wp2
    exact bodyPost_ret (v := .agg #[.int .i64 0, .bool false]) (by simp [results, Try.results43, go_sem]) rfl (givI_mk (below2 _ _ _))
  by_cases h3 : 3 < f
  · have HE : Hid (askB k f st u = false) := by show askB k f st u = false; simp [askB]; omega
    rw [unhide HE]
    clear HE
    go_enter Try.func43, Try.ntmps43
    go_wp2
    exact bodyPost_ret (v := .agg #[.int .i64 0, .bool false]) (by simp [results, Try.results43, go_sem]) rfl (givI_mk (below2 _ _ _))
  by_cases h4 : ¬ st = 0
  · have hb4 : (st != 0) = true := by simpa using h4
    have HE : Hid (askB k f st u = false) := by show askB k f st u = false; simp [askB, h4]
    rw [unhide HE]
    clear HE
    go_enter Try.func43, Try.ntmps43
    go_wp2
    exact bodyPost_ret (v := .agg #[.int .i64 0, .bool false]) (by simp [results, Try.results43, go_sem]) rfl (givI_mk (below2 _ _ _))
  replace h4 : st = 0 := by omega
  have hb4 : (st != 0) = false := by simpa using h4
  by_cases h5 : 0 < u.length
  · have HE : Hid (askB k f st u = false) := by show askB k f st u = false; simp [askB]; intros; intro e; simp [e] at h5
    rw [unhide HE]
    clear HE
    go_enter Try.func43, Try.ntmps43
    go_wp2
    exact bodyPost_ret (v := .agg #[.int .i64 0, .bool false]) (by simp [results, Try.results43, go_sem]) rfl (givI_mk (below2 _ _ _))
  have h5' : u = [] := List.length_eq_zero_iff.1 (by omega)
  have HE : Hid (askB k f st u = true) := by show askB k f st u = true; subst h5' h1 h4; simp [askB]; omega
  rw [unhide HE]
  clear HE
  subst h5' h1 h4
  go_enter Try.func43, Try.ntmps43
  go_wp2_with fail
  refine (someInt_any f _).mono ?_
  rintro e w1 ⟨rfl, hb⟩
  obtain ⟨W, hW⟩ : ∃ W, W = (w.alloc (Obj.cells #[Value.int IntKind.i64 1, Value.int IntKind.i64 f, Value.slice xa t.length xc, Value.int IntKind.i64 n, Value.int IntKind.i64 0, Value.slice ya 0 yc] 41)).alloc (Obj.cells #[Value.int IntKind.i64 0, Value.bool false] 74) := ⟨_, rfl⟩
  replace hb : Below W.heap.size W w1 := by rw [hW]; exact hb
  have hB0 : Below w.heap.size w W := by rw [hW]; exact below2 _ _ _
  have hZ : W.heap[w.heap.size + 1]? = some (.cells #[Value.int IntKind.i64 0, Value.bool false] 74 (0, 0)) := by
    rw [hW]
    have := heap_alloc_new (w.alloc (Obj.cells #[Value.int IntKind.i64 1, Value.int IntKind.i64 f, Value.slice xa t.length xc, Value.int IntKind.i64 n, Value.int IntKind.i64 0, Value.slice ya 0 yc] 41)) (Obj.cells #[Value.int IntKind.i64 0, Value.bool false] 74)
    rwa [World.size_alloc] at this
  replace hZ := blk_below hZ hb
  have hB1 := bstep hB0 hb
  obtain ⟨z0, z1, zf0, zf1⟩ := two_blk hZ
  clear hW hB0 hb hZ
  go_wp2
  refine bodyPost_ret (v := .agg #[.int .i64 f, .bool true]) (by simp [results, Try.results43, go_sem, *]) rfl (givI_mk ?_)
  exact (hB1.setCell (p := ⟨w.heap.size + 1, 0, none⟩) (by simp) _).setCell (p := ⟨w.heap.size + 1, 1, none⟩) (by simp) _

set_option maxRecDepth 100000 in
set_option maxHeartbeats 2000000 in
theorem toldBy_any (k f n st : Int) (xa ya : Option Addr) (xc yc : Nat) (t u : List C) (r : Bool) (w : World) (hT : OutM w xa xc t) (hU : OutM w ya yc u) (hr : CanB t u r) :
    Calls Try.prog 44 #[mV k f n st xa ya t.length xc u.length yc] w (GivO w (tellB k f st t u r)) := by
  unfold mV
  have HR := hide hr
  clear hr
  by_cases h1 : ¬ k = 2
  · have hb1 : (k != 2) = true := by simpa using h1
    clear hT hU HR
    have HE : Hid (tellB k f st t u r = false) := by show tellB k f st t u r = false; simp [tellB, h1]
    rw [unhide HE]
    clear HE
    go_enter Try.func44, Try.ntmps44
    go_wp2
    exact bodyPost_ret (v := .agg #[.int .i64 0, .slice none 0 0, .bool false]) (by simp [results, Try.results44, go_sem]) rfl (givO_mk (below2 _ _ _))
  replace h1 : k = 2 := by omega
  have hb1 : (k != 2) = false := by simpa using h1
  by_cases h2 : ¬ f = 0
  · have hb2 : (f != 0) = true := by simpa using h2
    clear hT hU HR
    have HE : Hid (tellB k f st t u r = false) := by show tellB k f st t u r = false; simp [tellB, h2]
    rw [unhide HE]
    clear HE
    go_enter Try.func44, Try.ntmps44
    go_wp2
    exact bodyPost_ret (v := .agg #[.int .i64 0, .slice none 0 0, .bool false]) (by simp [results, Try.results44, go_sem]) rfl (givO_mk (below2 _ _ _))
  replace h2 : f = 0 := by omega
  have hb2 : (f != 0) = false := by simpa using h2
  have HE : Hid (tellB k f st t u r = outB st t u r) := by show tellB k f st t u r = outB st t u r; simp [tellB, h1, h2]
  rw [unhide HE]
  clear HE
  subst h1 h2
  obtain ⟨W, hW⟩ : ∃ W, W = (w.alloc (Obj.cells #[Value.int IntKind.i64 2, Value.int IntKind.i64 0, Value.slice xa t.length xc, Value.int IntKind.i64 n, Value.int IntKind.i64 st, Value.slice ya u.length yc] 41)).alloc (Obj.cells #[Value.int IntKind.i64 0, Value.slice none 0 0, Value.bool false] 77) := ⟨_, rfl⟩
  have hB0 : Below w.heap.size w W := by rw [hW]; exact below2 _ _ _
  have hX : W.heap[w.heap.size]? = some (.cells #[Value.int IntKind.i64 2, Value.int IntKind.i64 0, Value.slice xa t.length xc, Value.int IntKind.i64 n, Value.int IntKind.i64 st, Value.slice ya u.length yc] 41 (0, 0)) := by
    rw [hW]
    exact blk_alloc (heap_alloc_new w _) _
  have hZ : W.heap[w.heap.size + 1]? = some (.cells #[Value.int IntKind.i64 0, Value.slice none 0 0, Value.bool false] 77 (0, 0)) := by
    rw [hW]
    have := heap_alloc_new (w.alloc (Obj.cells #[Value.int IntKind.i64 2, Value.int IntKind.i64 0, Value.slice xa t.length xc, Value.int IntKind.i64 n, Value.int IntKind.i64 st, Value.slice ya u.length yc] 41)) (Obj.cells #[Value.int IntKind.i64 0, Value.slice none 0 0, Value.bool false] 77)
    rwa [World.size_alloc] at this
  have HO := hide (implOutOk_any st xa ya xc yc t u r W (hT.below hB0) (hU.below hB0) (unhide HR))
  clear hT hU HR
  go_enter Try.func44, Try.ntmps44
  go_wp2_with fail
  rw [← hW]
  clear hW
  refine (unhide HO).mono ?_
  rintro e w1 ⟨rfl, hb1⟩
  have hB1 := bstep hB0 hb1
  replace hX := blk_below hX hb1
  replace hZ := blk_below hZ hb1
  obtain ⟨z0, z1, z2, zf0, zf1, zf2⟩ := three_blk hZ
  have HZ := hide hZ
  cases ho : outB st t u r with
  | false =>
    have HOO := hide ho
    clear hX hZ ho HO hB0 hb1
    go_wp2
    refine bodyPost_ret (v := .agg #[.int .i64 0, .slice none 0 0, .bool false]) (by simp [results, Try.results44, go_sem, *]) rfl ?_
    rw [unhide HOO]
    refine givO_mk ?_
    exact ((hB1.setCell (p := ⟨w.heap.size + 1, 0, none⟩) (by simp) _).setCell (p := ⟨w.heap.size + 1, 1, none⟩) (by simp) _).setCell (p := ⟨w.heap.size + 1, 2, none⟩) (by simp) _
  | true =>
    have HOO := hide ho
    obtain ⟨_, _, _, _, x4, x5⟩ := six_cells hX
    clear hX hZ ho HO hB0 hb1 z0 z1 z2 zf0 zf1 zf2
    go_wp2_with fail
    refine (someOut_any st ya u.length yc w1).mono ?_
    rintro e w2 ⟨rfl, hb2⟩
    obtain ⟨z0, z1, z2, zf0, zf1, zf2⟩ := three_blk (blk_below (unhide HZ) hb2)
    have hB2 := bstep hB1 hb2
    clear hB1 hb2
    go_wp2
    refine bodyPost_ret (v := .agg #[.int .i64 st, .slice ya u.length yc, .bool true]) (by simp [results, Try.results44, go_sem, *]) rfl ?_
    rw [unhide HOO]
    refine givO_mk ?_
    exact ((hB2.setCell (p := ⟨w.heap.size + 1, 0, none⟩) (by simp) _).setCell (p := ⟨w.heap.size + 1, 1, none⟩) (by simp) _).setCell (p := ⟨w.heap.size + 1, 2, none⟩) (by simp) _
end Go.Proofs.Ytonpahhcfgdeoaa
