import Derived.Test.YtkedckmpjedjoaaQQJ10SEG1
import Derived.Deep.CutRange
import Derived.Deep.RegionWith
/- tellGoal of the program, kind by kind. -/
namespace Go.Proofs.Ytkedckmpjedjoaa
open Go.RowKit Go.Shelf
set_option linter.unusedVariables false
set_option linter.unusedSimpArgs false

theorem okC_small {c : C} (h : okC c = true) : c.s.size ≤ 8 := by
  unfold okC at h
  split at h
  · simp only [Bool.and_eq_true, decide_eq_true_eq] at h; omega
  · split at h
    · simp only [Bool.and_eq_true, decide_eq_true_eq] at h; omega
    · split at h
      · unfold nameB at h
        simp only [Bool.and_eq_true, decide_eq_true_eq] at h
        omega
      · cases h

/-- From this world on the tree at p tells these places. -/
def ListAt (w : World) (p : Nat) (t : List C) : Prop := ∀ W, Below w.heap.size w W → Calls Try.prog 148 #[.pointer (some ⟨p, 0, none⟩)] W fun e w' => ∃ ao cap, e = .returned (.slice ao t.length cap) ∧ SegC W.heap.size w'.heap.size w' (.slice ao t.length cap) t ∧ Below W.heap.size W w'
theorem listAt_of {lo : Nat} {w : World} {p : Nat} {t : List C} (h : TreL lo w.heap.size w p t) (ht : trm t = true) : ListAt w p t := by
  intro W hW
  obtain ⟨z, h1, h2, h3⟩ := h.below hW
  have hok := ((trm_iff t).1 ht).2.2.1
  have hF : Fit t := fun c hc => by have := okC_small (hok c hc); unfold maxLen; omega
  have h1' := h1.kept (S := fun b => lo ≤ b ∧ b < W.heap.size) (S' := fun b => b < W.heap.size) (fun b hb => hb.2) (fun _ _ => rfl)
  have hlen : z.length ≤ 1048576 := by have := congrArg List.length h2; simp at this; omega
  refine (list_any 40 p z t h2 W h1'.shpG h1'.heldG hlen hF).mono ?_
  rintro e w' ⟨v, rfl, hO, hb⟩
  have hl : listed t = t := by unfold listed; rw [if_pos ht]
  rw [hl] at hO
  obtain ⟨ao, cap, rfl, _⟩ := hO.shape
  exact ⟨ao, cap, rfl, ⟨hO, fun b e => (hO.lt b e).2⟩, hb⟩

def TellG (w : World) (x : Gl) (e : Ending) (w' : World) : Prop := ∃ v0 v1 v2 v3, e = .returned (.agg #[v0, v1, v2, v3]) ∧ SegG w.heap.size w'.heap.size w' x v0 v1 v2 v3 ∧ Below w.heap.size w w'

theorem res4 {W : World} {R : Nat} {T : TypeId} {x0 x1 x2 x3 : Value} (h : W.heap[R]? = some (.cells #[x0, x1, x2, x3] T)) :
    W.cell? ⟨R, 0, none⟩ = some x0 ∧ W.cell? ⟨R, 1, none⟩ = some x1 ∧ W.cell? ⟨R, 2, none⟩ = some x2 ∧ W.cell? ⟨R, 3, none⟩ = some x3 ∧ W.frozen? ⟨R, 0, none⟩ = false ∧ W.frozen? ⟨R, 1, none⟩ = false ∧ W.frozen? ⟨R, 2, none⟩ = false ∧ W.frozen? ⟨R, 3, none⟩ = false := by
  simp [World.cell?, World.frozen?, h]

theorem tell_fin {w W : World} {R : Nat} {x : Gl} (v0 v1 v2 v3 : Value) (hR : w.heap.size ≤ R) (hb : Below w.heap.size w W) (h0 : v0 = .int .i64 x.k)
    (hS : ∃ m1 m2, R + 1 ≤ m1 ∧ m1 ≤ m2 ∧ m2 ≤ W.heap.size ∧ SegC (R + 1) m1 W v1 x.a ∧ SegC m1 m2 W v2 x.b ∧ SegC m2 W.heap.size W v3 x.c) :
    TellG w x (.returned (.agg #[v0, v1, v2, v3])) ((((W.setCell ⟨R, 0, none⟩ v0).setCell ⟨R, 1, none⟩ v1).setCell ⟨R, 2, none⟩ v2).setCell ⟨R, 3, none⟩ v3) := by
  obtain ⟨m1, m2, a1, a2, a3, h1, h2, h3⟩ := hS
  have hk : ∀ hi, Agree (R + 1) hi W ((((W.setCell ⟨R, 0, none⟩ v0).setCell ⟨R, 1, none⟩ v1).setCell ⟨R, 2, none⟩ v2).setCell ⟨R, 3, none⟩ v3) := fun hi =>
    (((Agree.set (.inl (Nat.lt_succ_self R))).trans (Agree.set (.inl (Nat.lt_succ_self R)))).trans (Agree.set (.inl (Nat.lt_succ_self R)))).trans (Agree.set (.inl (Nat.lt_succ_self R)))
  have hsz : ((((W.setCell ⟨R, 0, none⟩ v0).setCell ⟨R, 1, none⟩ v1).setCell ⟨R, 2, none⟩ v2).setCell ⟨R, 3, none⟩ v3).heap.size = W.heap.size := by simp [World.setCell]
  refine ⟨v0, v1, v2, v3, rfl, ⟨h0, m1, m2, by omega, a2, by rw [hsz]; exact a3, ?_, ?_, ?_⟩, (((hb.setCell (p := ⟨R, 0, none⟩) hR _).setCell (p := ⟨R, 1, none⟩) hR _).setCell (p := ⟨R, 2, none⟩) hR _).setCell (p := ⟨R, 3, none⟩) hR _⟩
  · exact (h1.kept (hk m1)).wide (by omega) (Nat.le_refl _)
  · exact h2.kept ((hk m2).sub (by omega) (Nat.le_refl _))
  · rw [hsz]; exact h3.kept ((hk _).sub (by omega) (Nat.le_refl _))

theorem box0 (w : World) : Below w.heap.size w (w.alloc (.cells #[.int .i64 0, .slice none 0 0, .slice none 0 0, .slice none 0 0] 93)) ∧ (w.alloc (.cells #[.int .i64 0, .slice none 0 0, .slice none 0 0, .slice none 0 0] 93)).heap.size = w.heap.size + 1 ∧
    (w.alloc (.cells #[.int .i64 0, .slice none 0 0, .slice none 0 0, .slice none 0 0] 93)).heap[w.heap.size]? = some (.cells #[.int .i64 0, .slice none 0 0, .slice none 0 0, .slice none 0 0] 93) :=
  ⟨cell_below _ _, by simp, World.alloc_heap_new w _⟩
theorem boxS (w : World) (vs : Array Value) (T : TypeId) : Below w.heap.size w ((w.alloc (.cells #[.int .i64 0, .slice none 0 0, .slice none 0 0, .slice none 0 0] 93)).alloc (.cells vs T)) ∧ ((w.alloc (.cells #[.int .i64 0, .slice none 0 0, .slice none 0 0, .slice none 0 0] 93)).alloc (.cells vs T)).heap.size = w.heap.size + 2 ∧
    ((w.alloc (.cells #[.int .i64 0, .slice none 0 0, .slice none 0 0, .slice none 0 0] 93)).alloc (.cells vs T)).heap[w.heap.size]? = some (.cells #[.int .i64 0, .slice none 0 0, .slice none 0 0, .slice none 0 0] 93) ∧
    ((w.alloc (.cells #[.int .i64 0, .slice none 0 0, .slice none 0 0, .slice none 0 0] 93)).alloc (.cells vs T)).heap[w.heap.size + 1]? = some (.cells vs T) := by
  refine ⟨bstep (cell_below _ _) (cell_below _ _), by simp, ?_, ?_⟩
  · rw [Below.heap_alloc _ _ _ (by simp)]; exact World.alloc_heap_new w _
  · have := World.alloc_heap_new (w.alloc (.cells #[.int .i64 0, .slice none 0 0, .slice none 0 0, .slice none 0 0] 93)) (.cells vs T)
    rwa [World.size_alloc] at this
theorem box1 (w : World) (x0 : Value) (T : TypeId) : Below w.heap.size w ((w.alloc (.cells #[.int .i64 0, .slice none 0 0, .slice none 0 0, .slice none 0 0] 93)).alloc (.cells #[x0] T)) ∧ ((w.alloc (.cells #[.int .i64 0, .slice none 0 0, .slice none 0 0, .slice none 0 0] 93)).alloc (.cells #[x0] T)).heap.size = w.heap.size + 2 ∧
    ((w.alloc (.cells #[.int .i64 0, .slice none 0 0, .slice none 0 0, .slice none 0 0] 93)).alloc (.cells #[x0] T)).heap[w.heap.size]? = some (.cells #[.int .i64 0, .slice none 0 0, .slice none 0 0, .slice none 0 0] 93) ∧
    ((w.alloc (.cells #[.int .i64 0, .slice none 0 0, .slice none 0 0, .slice none 0 0] 93)).alloc (.cells #[x0] T)).cell? ⟨w.heap.size + 1, 0, none⟩ = some x0 := by
  obtain ⟨h1, h2, h3, h4⟩ := boxS w #[x0] T
  exact ⟨h1, h2, h3, by simp only [World.cell?]; rw [h4]; rfl⟩
theorem box2 (w : World) (x0 x1 : Value) (T : TypeId) : Below w.heap.size w ((w.alloc (.cells #[.int .i64 0, .slice none 0 0, .slice none 0 0, .slice none 0 0] 93)).alloc (.cells #[x0, x1] T)) ∧ ((w.alloc (.cells #[.int .i64 0, .slice none 0 0, .slice none 0 0, .slice none 0 0] 93)).alloc (.cells #[x0, x1] T)).heap.size = w.heap.size + 2 ∧
    ((w.alloc (.cells #[.int .i64 0, .slice none 0 0, .slice none 0 0, .slice none 0 0] 93)).alloc (.cells #[x0, x1] T)).heap[w.heap.size]? = some (.cells #[.int .i64 0, .slice none 0 0, .slice none 0 0, .slice none 0 0] 93) ∧
    ((w.alloc (.cells #[.int .i64 0, .slice none 0 0, .slice none 0 0, .slice none 0 0] 93)).alloc (.cells #[x0, x1] T)).cell? ⟨w.heap.size + 1, 0, none⟩ = some x0 ∧ ((w.alloc (.cells #[.int .i64 0, .slice none 0 0, .slice none 0 0, .slice none 0 0] 93)).alloc (.cells #[x0, x1] T)).cell? ⟨w.heap.size + 1, 1, none⟩ = some x1 := by
  obtain ⟨h1, h2, h3, h4⟩ := boxS w #[x0, x1] T
  exact ⟨h1, h2, h3, by simp only [World.cell?]; rw [h4]; rfl, by simp only [World.cell?]; rw [h4]; rfl⟩
theorem box3 (w : World) (x0 x1 x2 : Value) (T : TypeId) : Below w.heap.size w ((w.alloc (.cells #[.int .i64 0, .slice none 0 0, .slice none 0 0, .slice none 0 0] 93)).alloc (.cells #[x0, x1, x2] T)) ∧ ((w.alloc (.cells #[.int .i64 0, .slice none 0 0, .slice none 0 0, .slice none 0 0] 93)).alloc (.cells #[x0, x1, x2] T)).heap.size = w.heap.size + 2 ∧
    ((w.alloc (.cells #[.int .i64 0, .slice none 0 0, .slice none 0 0, .slice none 0 0] 93)).alloc (.cells #[x0, x1, x2] T)).heap[w.heap.size]? = some (.cells #[.int .i64 0, .slice none 0 0, .slice none 0 0, .slice none 0 0] 93) ∧
    ((w.alloc (.cells #[.int .i64 0, .slice none 0 0, .slice none 0 0, .slice none 0 0] 93)).alloc (.cells #[x0, x1, x2] T)).cell? ⟨w.heap.size + 1, 0, none⟩ = some x0 ∧ ((w.alloc (.cells #[.int .i64 0, .slice none 0 0, .slice none 0 0, .slice none 0 0] 93)).alloc (.cells #[x0, x1, x2] T)).cell? ⟨w.heap.size + 1, 1, none⟩ = some x1 ∧ ((w.alloc (.cells #[.int .i64 0, .slice none 0 0, .slice none 0 0, .slice none 0 0] 93)).alloc (.cells #[x0, x1, x2] T)).cell? ⟨w.heap.size + 1, 2, none⟩ = some x2 := by
  obtain ⟨h1, h2, h3, h4⟩ := boxS w #[x0, x1, x2] T
  exact ⟨h1, h2, h3, by simp only [World.cell?]; rw [h4]; rfl, by simp only [World.cell?]; rw [h4]; rfl, by simp only [World.cell?]; rw [h4]; rfl⟩

set_option maxRecDepth 100000 in
theorem tt_same_same (v : Value) (w : World) : (Instr.typeAssert (.iface 241 v) 212 241 true).run Try.prog w = .ok (.tuple #[v, .bool true]) w := by first | kernel_rfl | (simp [Instr.typeAssert, go_sem]; done)
set_option maxRecDepth 100000 in
theorem tt_cut_same (v : Value) (w : World) : (Instr.typeAssert (.iface 243 v) 212 241 true).run Try.prog w = .ok (.tuple #[(.agg #[.pointer none, .pointer none]), .bool false]) w := by first | kernel_rfl | (simp [Instr.typeAssert, go_sem]; done)
set_option maxRecDepth 100000 in
theorem tt_cut_cut (v : Value) (w : World) : (Instr.typeAssert (.iface 243 v) 212 243 true).run Try.prog w = .ok (.tuple #[v, .bool true]) w := by first | kernel_rfl | (simp [Instr.typeAssert, go_sem]; done)
set_option maxRecDepth 100000 in
theorem tt_less_same (v : Value) (w : World) : (Instr.typeAssert (.iface 244 v) 212 241 true).run Try.prog w = .ok (.tuple #[(.agg #[.pointer none, .pointer none]), .bool false]) w := by first | kernel_rfl | (simp [Instr.typeAssert, go_sem]; done)
set_option maxRecDepth 100000 in
theorem tt_less_cut (v : Value) (w : World) : (Instr.typeAssert (.iface 244 v) 212 243 true).run Try.prog w = .ok (.tuple #[(.agg #[]), .bool false]) w := by first | kernel_rfl | (simp [Instr.typeAssert, go_sem]; done)
set_option maxRecDepth 100000 in
theorem tt_less_less (v : Value) (w : World) : (Instr.typeAssert (.iface 244 v) 212 244 true).run Try.prog w = .ok (.tuple #[v, .bool true]) w := by first | kernel_rfl | (simp [Instr.typeAssert, go_sem]; done)
set_option maxRecDepth 100000 in
theorem tt_plus_same (v : Value) (w : World) : (Instr.typeAssert (.iface 246 v) 212 241 true).run Try.prog w = .ok (.tuple #[(.agg #[.pointer none, .pointer none]), .bool false]) w := by first | kernel_rfl | (simp [Instr.typeAssert, go_sem]; done)
set_option maxRecDepth 100000 in
theorem tt_plus_cut (v : Value) (w : World) : (Instr.typeAssert (.iface 246 v) 212 243 true).run Try.prog w = .ok (.tuple #[(.agg #[]), .bool false]) w := by first | kernel_rfl | (simp [Instr.typeAssert, go_sem]; done)
set_option maxRecDepth 100000 in
theorem tt_plus_less (v : Value) (w : World) : (Instr.typeAssert (.iface 246 v) 212 244 true).run Try.prog w = .ok (.tuple #[(.agg #[.pointer none, .pointer none]), .bool false]) w := by first | kernel_rfl | (simp [Instr.typeAssert, go_sem]; done)
set_option maxRecDepth 100000 in
theorem tt_plus_plus (v : Value) (w : World) : (Instr.typeAssert (.iface 246 v) 212 246 true).run Try.prog w = .ok (.tuple #[v, .bool true]) w := by first | kernel_rfl | (simp [Instr.typeAssert, go_sem]; done)
set_option maxRecDepth 100000 in
theorem tt_exit_same (v : Value) (w : World) : (Instr.typeAssert (.iface 247 v) 212 241 true).run Try.prog w = .ok (.tuple #[(.agg #[.pointer none, .pointer none]), .bool false]) w := by first | kernel_rfl | (simp [Instr.typeAssert, go_sem]; done)
set_option maxRecDepth 100000 in
theorem tt_exit_cut (v : Value) (w : World) : (Instr.typeAssert (.iface 247 v) 212 243 true).run Try.prog w = .ok (.tuple #[(.agg #[]), .bool false]) w := by first | kernel_rfl | (simp [Instr.typeAssert, go_sem]; done)
set_option maxRecDepth 100000 in
theorem tt_exit_less (v : Value) (w : World) : (Instr.typeAssert (.iface 247 v) 212 244 true).run Try.prog w = .ok (.tuple #[(.agg #[.pointer none, .pointer none]), .bool false]) w := by first | kernel_rfl | (simp [Instr.typeAssert, go_sem]; done)
set_option maxRecDepth 100000 in
theorem tt_exit_plus (v : Value) (w : World) : (Instr.typeAssert (.iface 247 v) 212 246 true).run Try.prog w = .ok (.tuple #[(.agg #[.pointer none, .pointer none, .pointer none]), .bool false]) w := by first | kernel_rfl | (simp [Instr.typeAssert, go_sem]; done)

set_option maxRecDepth 100000 in
set_option maxHeartbeats 8000000 in
theorem tellGoal_call (p : Nat) (a : List C) (w : World) (Ha : ListAt w p a) :
    Calls Try.prog 149 #[.iface 222 (.agg #[ptrV (some p)])] w (TellG w ⟨1, a, [], []⟩) := by
  have t_call := ta_call_call
  have Ka := hide Ha
  clear Ha
  unfold ListAt at Ka
  simp only [ptrV, Option.map_some]
  obtain ⟨hb0, hsz, hre0, d0⟩ := box1 w (.pointer (some ⟨p, 0, none⟩)) 222
  go_enter Try.func149, Try.ntmps149
  go_wp2_with fail
  generalize ((w.alloc (.cells #[.int .i64 0, .slice none 0 0, .slice none 0 0, .slice none 0 0] 93)).alloc (.cells #[.pointer (some ⟨p, 0, none⟩)] 222)) = w0 at hb0 hsz hre0 d0 ⊢
  refine (unhide Ka w0 hb0).mono ?_
  rintro e w1 ⟨a0, c0x, rfl, S0, hb1⟩
  obtain ⟨c0, c1, c2, c3, f0, f1, f2, f3⟩ := res4 ((hb1.block w.heap.size (by omega)).trans hre0)
  have FIN := hide (tell_fin (w := w) (R := w.heap.size) (x := ⟨1, a, [], []⟩) (.int .i64 1) (.slice a0 a.length c0x) (.slice none 0 0) (.slice none 0 0) (Nat.le_refl _) (bstep hb0 hb1) rfl ⟨w1.heap.size, w1.heap.size, by have := hb1.size; omega, Nat.le_refl _, Nat.le_refl _, S0.wide (by omega) (Nat.le_refl _), SegC.nil _ _ _, SegC.nil _ _ _⟩)
  clear S0 hb0 hb1 hre0 Ka
  go_wp2
  exact bodyPost_ret (v := .agg #[.int .i64 1, .slice a0 a.length c0x, .slice none 0 0, .slice none 0 0]) (by simp [results, Try.results149, go_sem, *]) rfl (unhide FIN)

set_option maxRecDepth 100000 in
set_option maxHeartbeats 8000000 in
theorem tellGoal_cut (w : World) :
    Calls Try.prog 149 #[.iface 243 (.agg #[])] w (TellG w ⟨3, [], [], []⟩) := by
  have t_call := ta_cut_call
  have t_same := tt_cut_same
  have t_cut := tt_cut_cut
  obtain ⟨hb0, hsz, hre0, _⟩ := boxS w #[] 243
  go_enter Try.func149, Try.ntmps149
  go_upto_region 10 with fail
  generalize ((w.alloc (.cells #[.int .i64 0, .slice none 0 0, .slice none 0 0, .slice none 0 0] 93)).alloc (.cells #[] 243)) = w0 at hb0 hsz hre0 ⊢
  obtain ⟨c0, c1, c2, c3, f0, f1, f2, f3⟩ := res4 hre0
  have FIN := hide (tell_fin (w := w) (W := w0) (R := w.heap.size) (x := ⟨3, [], [], []⟩) (.int .i64 3) (.slice none 0 0) (.slice none 0 0) (.slice none 0 0) (Nat.le_refl _) hb0 rfl ⟨w.heap.size + 1, w.heap.size + 1, by omega, Nat.le_refl _, by rw [hsz]; omega, SegC.nil _ _ _, SegC.nil _ _ _, SegC.nil _ _ _⟩)
  clear hb0 hre0
  go_wp2
  exact bodyPost_ret (v := .agg #[.int .i64 3, .slice none 0 0, .slice none 0 0, .slice none 0 0]) (by simp [results, Try.results149, go_sem, *]) rfl (unhide FIN)

set_option maxRecDepth 100000 in
set_option maxHeartbeats 8000000 in
theorem tellGoal_exit (p : Nat) (a : List C) (w : World) (Ha : ListAt w p a) :
    Calls Try.prog 149 #[.iface 247 (.agg #[ptrV (some p)])] w (TellG w ⟨6, a, [], []⟩) := by
  have t_call := ta_exit_call
  have t_same := tt_exit_same
  have t_cut := tt_exit_cut
  have t_less := tt_exit_less
  have t_plus := tt_exit_plus
  have t_exit := ta_exit_exit
  have Ka := hide Ha
  clear Ha
  unfold ListAt at Ka
  simp only [ptrV, Option.map_some]
  obtain ⟨hb0, hsz, hre0, d0⟩ := box1 w (.pointer (some ⟨p, 0, none⟩)) 247
  go_enter Try.func149, Try.ntmps149
  go_wp2_with fail
  generalize ((w.alloc (.cells #[.int .i64 0, .slice none 0 0, .slice none 0 0, .slice none 0 0] 93)).alloc (.cells #[.pointer (some ⟨p, 0, none⟩)] 247)) = w0 at hb0 hsz hre0 d0 ⊢
  refine (unhide Ka w0 hb0).mono ?_
  rintro e w1 ⟨a0, c0x, rfl, S0, hb1⟩
  obtain ⟨c0, c1, c2, c3, f0, f1, f2, f3⟩ := res4 ((hb1.block w.heap.size (by omega)).trans hre0)
  have FIN := hide (tell_fin (w := w) (R := w.heap.size) (x := ⟨6, a, [], []⟩) (.int .i64 6) (.slice a0 a.length c0x) (.slice none 0 0) (.slice none 0 0) (Nat.le_refl _) (bstep hb0 hb1) rfl ⟨w1.heap.size, w1.heap.size, by have := hb1.size; omega, Nat.le_refl _, Nat.le_refl _, S0.wide (by omega) (Nat.le_refl _), SegC.nil _ _ _, SegC.nil _ _ _⟩)
  clear S0 hb0 hb1 hre0 Ka
  go_wp2
  exact bodyPost_ret (v := .agg #[.int .i64 6, .slice a0 a.length c0x, .slice none 0 0, .slice none 0 0]) (by simp [results, Try.results149, go_sem, *]) rfl (unhide FIN)

end Go.Proofs.Ytkedckmpjedjoaa

/- tellGoal of the program: two terms. -/
namespace Go.Proofs.Ytkedckmpjedjoaa
open Go.RowKit Go.Shelf
set_option linter.unusedVariables false
set_option linter.unusedSimpArgs false

set_option maxRecDepth 100000 in
set_option maxHeartbeats 8000000 in
theorem tellGoal_same (p : Nat) (q : Nat) (a : List C) (b : List C) (w : World) (Ha : ListAt w p a) (Hb : ListAt w q b) :
    Calls Try.prog 149 #[.iface 241 (.agg #[ptrV (some p), ptrV (some q)])] w (TellG w ⟨2, a, b, []⟩) := by
  have t_call := ta_same_call
  have t_same := tt_same_same
  have Ka := hide Ha
  clear Ha
  unfold ListAt at Ka
  have Kb := hide Hb
  clear Hb
  unfold ListAt at Kb
  simp only [ptrV, Option.map_some]
  obtain ⟨hb0, hsz, hre0, d0, d1⟩ := box2 w (.pointer (some ⟨p, 0, none⟩)) (.pointer (some ⟨q, 0, none⟩)) 241
  go_enter Try.func149, Try.ntmps149
  go_wp2_with fail
  generalize ((w.alloc (.cells #[.int .i64 0, .slice none 0 0, .slice none 0 0, .slice none 0 0] 93)).alloc (.cells #[.pointer (some ⟨p, 0, none⟩), .pointer (some ⟨q, 0, none⟩)] 241)) = w0 at hb0 hsz hre0 d0 d1 ⊢
  have hl0 : w.heap.size + 1 < w0.heap.size := World.block_lt_of_cell? w0 ⟨_, _, none⟩ d0
  go_region_with (first
    | (go_at_call 148; have hx := hb01; refine (unhide Kb w01 (by exact hB01)).mono ?_; rintro e w02 ⟨a1, c1x, rfl, S1, hb02⟩; have e20 := (hb02.cell (p := ⟨w.heap.size + 1, 0, none⟩) hl1).trans e10; have e21 := (hb02.cell (p := ⟨w.heap.size + 1, 1, none⟩) hl1).trans e11; have hl2 : w.heap.size + 1 < w02.heap.size := World.block_lt_of_cell? w02 ⟨_, _, none⟩ e20; have hB02 := bstep (hB01) hb02; have hre2 := (hb02.block w.heap.size (by have := hl1; omega)).trans hre1; obtain ⟨c0, c1, c2, c3, f0, f1, f2, f3⟩ := res4 hre2)
    | (go_at_call 148; refine (unhide Ka w0.drew (by exact hb0.drew)).mono ?_; rintro e w01 ⟨a0, c0x, rfl, S0, hb01⟩; have e10 := (hb01.cell (p := ⟨w.heap.size + 1, 0, none⟩) hl0).trans d0; have e11 := (hb01.cell (p := ⟨w.heap.size + 1, 1, none⟩) hl0).trans d1; have hl1 : w.heap.size + 1 < w01.heap.size := World.block_lt_of_cell? w01 ⟨_, _, none⟩ e10; have hB01 := bstep (hb0.drew) hb01; have hre1 := (hb01.block w.heap.size (by exact (show w.heap.size < w0.heap.size by omega))).trans hre0))
  all_goals have hdr : w0.drew.heap.size = w0.heap.size := rfl
  all_goals (have hs1 := hb01.size; have hs2 := hb02.size; have hbA := hb02; have FIN := hide (tell_fin (w := w) (W := w02) (R := w.heap.size) (x := ⟨2, a, b, []⟩) (.int .i64 2) (.slice a0 a.length c0x) (.slice a1 b.length c1x) (.slice none 0 0) (Nat.le_refl _) hB02 rfl ⟨w01.heap.size, w02.heap.size, by omega, by omega, Nat.le_refl _, (S0.wide (by have : w0.drew.heap.size = w0.heap.size := rfl; omega) (Nat.le_refl _)).kept (Agree.below hbA (Nat.le_refl _)), S1, SegC.nil _ _ _⟩))
  all_goals clear S0 S1 hbA hB02
  all_goals go_wp2
  all_goals exact bodyPost_ret (v := .agg #[.int .i64 2, .slice a0 a.length c0x, .slice a1 b.length c1x, .slice none 0 0]) (by simp [results, Try.results149, go_sem, *]) rfl (unhide FIN)

set_option maxRecDepth 100000 in
set_option maxHeartbeats 8000000 in
theorem tellGoal_less (p : Nat) (q : Nat) (a : List C) (b : List C) (w : World) (Ha : ListAt w p a) (Hb : ListAt w q b) :
    Calls Try.prog 149 #[.iface 244 (.agg #[ptrV (some p), ptrV (some q)])] w (TellG w ⟨4, a, b, []⟩) := by
  have t_call := ta_less_call
  have t_same := tt_less_same
  have t_cut := tt_less_cut
  have t_less := tt_less_less
  have Ka := hide Ha
  clear Ha
  unfold ListAt at Ka
  have Kb := hide Hb
  clear Hb
  unfold ListAt at Kb
  simp only [ptrV, Option.map_some]
  obtain ⟨hb0, hsz, hre0, d0, d1⟩ := box2 w (.pointer (some ⟨p, 0, none⟩)) (.pointer (some ⟨q, 0, none⟩)) 244
  go_enter Try.func149, Try.ntmps149
  go_wp2_with fail
  generalize ((w.alloc (.cells #[.int .i64 0, .slice none 0 0, .slice none 0 0, .slice none 0 0] 93)).alloc (.cells #[.pointer (some ⟨p, 0, none⟩), .pointer (some ⟨q, 0, none⟩)] 244)) = w0 at hb0 hsz hre0 d0 d1 ⊢
  have hl0 : w.heap.size + 1 < w0.heap.size := World.block_lt_of_cell? w0 ⟨_, _, none⟩ d0
  go_region_with (first
    | (go_at_call 148; have hx := hb01; refine (unhide Kb w01 (by exact hB01)).mono ?_; rintro e w02 ⟨a1, c1x, rfl, S1, hb02⟩; have e20 := (hb02.cell (p := ⟨w.heap.size + 1, 0, none⟩) hl1).trans e10; have e21 := (hb02.cell (p := ⟨w.heap.size + 1, 1, none⟩) hl1).trans e11; have hl2 : w.heap.size + 1 < w02.heap.size := World.block_lt_of_cell? w02 ⟨_, _, none⟩ e20; have hB02 := bstep (hB01) hb02; have hre2 := (hb02.block w.heap.size (by have := hl1; omega)).trans hre1; obtain ⟨c0, c1, c2, c3, f0, f1, f2, f3⟩ := res4 hre2)
    | (go_at_call 148; refine (unhide Ka w0.drew (by exact hb0.drew)).mono ?_; rintro e w01 ⟨a0, c0x, rfl, S0, hb01⟩; have e10 := (hb01.cell (p := ⟨w.heap.size + 1, 0, none⟩) hl0).trans d0; have e11 := (hb01.cell (p := ⟨w.heap.size + 1, 1, none⟩) hl0).trans d1; have hl1 : w.heap.size + 1 < w01.heap.size := World.block_lt_of_cell? w01 ⟨_, _, none⟩ e10; have hB01 := bstep (hb0.drew) hb01; have hre1 := (hb01.block w.heap.size (by exact (show w.heap.size < w0.heap.size by omega))).trans hre0))
  all_goals have hdr : w0.drew.heap.size = w0.heap.size := rfl
  all_goals (have hs1 := hb01.size; have hs2 := hb02.size; have hbA := hb02; have FIN := hide (tell_fin (w := w) (W := w02) (R := w.heap.size) (x := ⟨4, a, b, []⟩) (.int .i64 4) (.slice a0 a.length c0x) (.slice a1 b.length c1x) (.slice none 0 0) (Nat.le_refl _) hB02 rfl ⟨w01.heap.size, w02.heap.size, by omega, by omega, Nat.le_refl _, (S0.wide (by have : w0.drew.heap.size = w0.heap.size := rfl; omega) (Nat.le_refl _)).kept (Agree.below hbA (Nat.le_refl _)), S1, SegC.nil _ _ _⟩))
  all_goals clear S0 S1 hbA hB02
  all_goals go_wp2
  all_goals exact bodyPost_ret (v := .agg #[.int .i64 4, .slice a0 a.length c0x, .slice a1 b.length c1x, .slice none 0 0]) (by simp [results, Try.results149, go_sem, *]) rfl (unhide FIN)

end Go.Proofs.Ytkedckmpjedjoaa

/- tellGoal of the program: three terms. -/
namespace Go.Proofs.Ytkedckmpjedjoaa
open Go.RowKit Go.Shelf
set_option linter.unusedVariables false
set_option linter.unusedSimpArgs false

set_option maxRecDepth 100000 in
set_option maxHeartbeats 8000000 in
theorem tellGoal_plus (p : Nat) (q : Nat) (r : Nat) (a : List C) (b : List C) (c : List C) (w : World) (Ha : ListAt w p a) (Hb : ListAt w q b) (Hc : ListAt w r c) :
    Calls Try.prog 149 #[.iface 246 (.agg #[ptrV (some p), ptrV (some q), ptrV (some r)])] w (TellG w ⟨5, a, b, c⟩) := by
  have t_call := ta_plus_call
  have t_same := tt_plus_same
  have t_cut := tt_plus_cut
  have t_less := tt_plus_less
  have t_plus := tt_plus_plus
  have Ka := hide Ha
  clear Ha
  unfold ListAt at Ka
  have Kb := hide Hb
  clear Hb
  unfold ListAt at Kb
  have Kc := hide Hc
  clear Hc
  unfold ListAt at Kc
  simp only [ptrV, Option.map_some]
  obtain ⟨hb0, hsz, hre0, d0, d1, d2⟩ := box3 w (.pointer (some ⟨p, 0, none⟩)) (.pointer (some ⟨q, 0, none⟩)) (.pointer (some ⟨r, 0, none⟩)) 246
  go_enter Try.func149, Try.ntmps149
  go_wp2_with fail
  generalize ((w.alloc (.cells #[.int .i64 0, .slice none 0 0, .slice none 0 0, .slice none 0 0] 93)).alloc (.cells #[.pointer (some ⟨p, 0, none⟩), .pointer (some ⟨q, 0, none⟩), .pointer (some ⟨r, 0, none⟩)] 246)) = w0 at hb0 hsz hre0 d0 d1 d2 ⊢
  have hl0 : w.heap.size + 1 < w0.heap.size := World.block_lt_of_cell? w0 ⟨_, _, none⟩ d0
  go_region_with (first
    | (go_at_call 148; have hx := hb02; refine (unhide Kc w02 (by exact hB02)).mono ?_; rintro e w03 ⟨a2, c2x, rfl, S2, hb03⟩; have e30 := (hb03.cell (p := ⟨w.heap.size + 1, 0, none⟩) hl2).trans e20; have e31 := (hb03.cell (p := ⟨w.heap.size + 1, 1, none⟩) hl2).trans e21; have e32 := (hb03.cell (p := ⟨w.heap.size + 1, 2, none⟩) hl2).trans e22; have hl3 : w.heap.size + 1 < w03.heap.size := World.block_lt_of_cell? w03 ⟨_, _, none⟩ e30; have hB03 := bstep (hB02) hb03; have hre3 := (hb03.block w.heap.size (by have := hl2; omega)).trans hre2; obtain ⟨c0, c1, c2, c3, f0, f1, f2, f3⟩ := res4 hre3)
    | (go_at_call 148; have hx := hb01; refine (unhide Kb w01 (by exact hB01)).mono ?_; rintro e w02 ⟨a1, c1x, rfl, S1, hb02⟩; have e20 := (hb02.cell (p := ⟨w.heap.size + 1, 0, none⟩) hl1).trans e10; have e21 := (hb02.cell (p := ⟨w.heap.size + 1, 1, none⟩) hl1).trans e11; have e22 := (hb02.cell (p := ⟨w.heap.size + 1, 2, none⟩) hl1).trans e12; have hl2 : w.heap.size + 1 < w02.heap.size := World.block_lt_of_cell? w02 ⟨_, _, none⟩ e20; have hB02 := bstep (hB01) hb02; have hre2 := (hb02.block w.heap.size (by have := hl1; omega)).trans hre1)
    | (go_at_call 148; refine (unhide Ka w0.drew (by exact hb0.drew)).mono ?_; rintro e w01 ⟨a0, c0x, rfl, S0, hb01⟩; have e10 := (hb01.cell (p := ⟨w.heap.size + 1, 0, none⟩) hl0).trans d0; have e11 := (hb01.cell (p := ⟨w.heap.size + 1, 1, none⟩) hl0).trans d1; have e12 := (hb01.cell (p := ⟨w.heap.size + 1, 2, none⟩) hl0).trans d2; have hl1 : w.heap.size + 1 < w01.heap.size := World.block_lt_of_cell? w01 ⟨_, _, none⟩ e10; have hB01 := bstep (hb0.drew) hb01; have hre1 := (hb01.block w.heap.size (by exact (show w.heap.size < w0.heap.size by omega))).trans hre0))
  all_goals have hdr : w0.drew.heap.size = w0.heap.size := rfl
  all_goals (have hs1 := hb01.size; have hs2 := hb02.size; have hs3 := hb03.size; have hbA := bstep hb02 hb03; have FIN := hide (tell_fin (w := w) (W := w03) (R := w.heap.size) (x := ⟨5, a, b, c⟩) (.int .i64 5) (.slice a0 a.length c0x) (.slice a1 b.length c1x) (.slice a2 c.length c2x) (Nat.le_refl _) hB03 rfl ⟨w01.heap.size, w02.heap.size, by omega, by omega, by omega, (S0.wide (by have : w0.drew.heap.size = w0.heap.size := rfl; omega) (Nat.le_refl _)).kept (Agree.below hbA (Nat.le_refl _)), S1.kept (Agree.below hb03 (Nat.le_refl _)), S2⟩))
  all_goals clear S0 S1 S2 hbA hB03
  all_goals go_wp2
  all_goals exact bodyPost_ret (v := .agg #[.int .i64 5, .slice a0 a.length c0x, .slice a1 b.length c1x, .slice a2 c.length c2x]) (by simp [results, Try.results149, go_sem, *]) rfl (unhide FIN)

end Go.Proofs.Ytkedckmpjedjoaa
