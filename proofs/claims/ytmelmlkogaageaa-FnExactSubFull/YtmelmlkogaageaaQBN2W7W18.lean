import Derived.Test.YtmelmlkogaageaaQBN1
import Derived.Deep.AppendLies
import Derived.Test.YtmelmlkogaageaaQW6SB2
import Derived.Laws.StructEq
import Derived.Deep.QuietTactic
import Derived.BigQuiet
import Derived.WalkSmall
import Derived.Test.YtmelmlkogaageaaQW13
/- The walk of add. -/
namespace Go.Proofs.Ytmelmlkogaageaa
open Go.RowKit Go.Maps
set_option linter.unusedVariables false
set_option linter.unusedSimpArgs false

theorem Strt.not_row {W : World} {P M : Nat} {ov : Value} (h : Strt W P ov M) {base size k : Nat} {v : Value} {xs : List Value} (hr : W.ownsRow base 3 size v k xs) : some P ≠ v.ownBlock := by
  rcases hr.2 with ⟨rfl, _⟩ | ⟨g, cap, cur, rfl, _, hgb, _⟩
  · simp [Value.ownBlock]
  · intro e'
    obtain rfl : P = g := by simpa [Value.ownBlock] using e'
    have := (show W.heap[P]? = _ from h).symm.trans hgb
    simp at this
theorem map_not_row {W : World} {M n : Nat} {D : DataW Unit} (h : W.ownsMap Try.prog 3 ptrE M n D) {base e size k : Nat} {v : Value} {xs : List Value} (hr : W.ownsRow base e size v k xs) : some M ≠ v.ownBlock := by
  obtain ⟨es, clock, hm, _⟩ := h
  rcases hr.2 with ⟨rfl, _⟩ | ⟨g, cap, cur, rfl, _, hgb, _⟩
  · simp [Value.ownBlock]
  · intro e'
    obtain rfl : M = g := by simpa [Value.ownBlock] using e'
    rw [hm] at hgb
    cases hgb
theorem Strt.not_map {W : World} {P M M' n : Nat} {ov : Value} {D : DataW Unit} (h : Strt W P ov M) (hm : W.ownsMap Try.prog 3 ptrE M' n D) : P ≠ M' := by
  obtain ⟨es, clock, hm, _⟩ := hm
  intro e
  subst e
  have := (show W.heap[P]? = _ from h).symm.trans hm
  cases this

/-- What stands while add appends. -/
theorem add_mid {lo P M n g' cap' : Nat} {W w1 : World} {ov : Value} {D : DataW Unit} {x : Int} {z : List Int} (h1 : Strt W P ov M) (h4 : OwnI W lo ov z) (h5 : W.ownsMap Try.prog 3 ptrE M n D)
    (hgrow : (W.alloc (.cells #[.int .i64 x] 3)).grownBy w1 ov.ownBlock) : Strt w1 P ov M ∧ (w1.setCell ⟨P, 0, none⟩ (.slice (some ⟨g', 0, none⟩) (z.length + 1) cap')).ownsMap Try.prog 3 ptrE M n D ∧
      Strt (w1.setCell ⟨P, 0, none⟩ (.slice (some ⟨g', 0, none⟩) (z.length + 1) cap')) P (.slice (some ⟨g', 0, none⟩) (z.length + 1) cap') M := by
  have e1 : Strt w1 P ov M := (hgrow.block P (by have := h1.lt; simp; omega) (h1.not_row h4)).trans ((Below.heap_alloc W _ P h1.lt).trans h1)
  have e2 := (World.ownsMap.alloc h5 (.cells #[.int .i64 x] 3)).kept hgrow (map_not_row h5 h4)
  exact ⟨e1, World.ownsMap.setCell e2 (a := ⟨P, 0, none⟩) (fun e => h1.not_map h5 e.symm) _, e1.set _⟩

theorem bnd_add {lo P M n g' cap' p : Nat} {W w1 w3 : World} {S : Nat → Prop} {s : List B} {ov : Value} {D : DataW Unit} {rs : List Nat} {y : B} (h1 : Strt W P ov M) (h2 : lo ≤ P) (h3 : lo ≤ M) (h4 : OwnI W lo ov (s.map (·.v))) (h5 : W.ownsMap Try.prog 3 ptrE M n D) (h6 : n ≤ s.length) (h7 : TabP s rs D) (h8 : rs.length = s.length)
    (h9 : ∀ i, (h : i < s.length) → (h' : i < rs.length) → TreeAt S W rs[i] s[i].t) (h10 : ∀ b, S b → lo ≤ b ∧ b < W.heap.size ∧ b ≠ P ∧ b ≠ M ∧ some b ≠ ov.ownBlock) (hlo : lo ≤ W.heap.size)
    (hy : y.v ∉ s.map (·.v)) (ht : TreeAt S W p y.t)
    (hown' : w1.ownsRow lo 3 1 (.slice (some ⟨g', 0, none⟩) ((s.map (·.v)).length + 1) cap') ((s.map (·.v)).length + 1) (nums (s.map (·.v)) ++ [.int .i64 y.v]))
    (hgrow : (W.alloc (.cells #[.int .i64 y.v] 3)).grownBy w1 ov.ownBlock) (hat : ov.ownBlock = some g' ∨ g' = W.heap.size + 1)
    (hmap : w3.ownsMap Try.prog 3 ptrE M (n + 1) (D.put (.int .i64 y.v) (.lit (.int .i64 (p : Int)))))
    (hg3 : (w1.setCell ⟨P, 0, none⟩ (.slice (some ⟨g', 0, none⟩) ((s.map (·.v)).length + 1) cap')).grownBy w3 (some M)) :
    Bnd lo w3 P S (s ++ [y]) ∧ Below lo W w3 ∧ ∀ b, S b → w3.heap[b]? = W.heap[b]? := by
  obtain ⟨e1, e2, e3⟩ := add_mid (g' := g') (cap' := cap') h1 h4 h5 hgrow
  have hPM := h1.not_map h5
  have hs1 := hgrow.size
  simp at hs1
  have hs3 := hg3.size
  simp at hs3
  have keep : ∀ b, S b → w3.heap[b]? = W.heap[b]? := fun b hb => by
    obtain ⟨q1, q2, q3, q4, q5⟩ := h10 b hb
    exact (hg3.block b (by simp; omega) (by simpa using q4)).trans ((Below.heap_setCell _ _ _ b q3).trans ((hgrow.block b (by simp; omega) q5).trans (Below.heap_alloc W _ b q2)))
  have hne : g' ≠ P := by
    rcases hat with h | h
    · intro e; subst e; exact h1.not_row h4 h.symm
    · have := h1.lt; omega
  have hneM : g' ≠ M := by
    have := h5.lt
    rcases hat with h | h
    · intro e; subst e; exact map_not_row h5 h4 h.symm
    · omega
  refine ⟨⟨_, M, n + 1, _, rs ++ [p], (hg3.block P (by simp; have := e1.lt; omega) (by simpa using hPM)).trans e3, h2, h3, ?_, hmap, by simp; omega, tabP_put h7 h8 hy, by simp [h8], fun i hi hi' => ?_, fun b hb => ?_⟩, ?_, keep⟩
  · unfold OwnI
    rw [List.map_append, show nums (s.map (·.v) ++ [y].map (·.v)) = nums (s.map (·.v)) ++ [.int .i64 y.v] by simp [nums], show (s.map (·.v) ++ [y].map (·.v)).length = (s.map (·.v)).length + 1 by simp]
    refine own_block hown' (fun k e => ?_)
    have e' : g' = k := by simpa [Value.ownBlock] using e
    subst e'
    have hgl := (hown'.lt g' rfl).2
    exact (hg3.block g' (by simp; omega) (by simpa using hneM)).trans (Below.heap_setCell _ _ _ g' hne)
  · have hk : TreeAt S w3 p y.t := ht.kept (fun _ h => h) keep
    by_cases hl : i < s.length
    · have hl' : i < rs.length := by omega
      rw [List.getElem_append_left hl, List.getElem_append_left hl']
      exact (h9 i hl hl').kept (fun _ h => h) keep
    · have e : i = s.length := by simp at hi; omega
      have e' : i = rs.length := by omega
      subst e
      rw [List.getElem_append_right (Nat.le_refl _)]
      simp only [h8, Nat.sub_self, List.getElem_cons_zero]
      rw [List.getElem_append_right (by omega)]
      simp only [h8, Nat.sub_self, List.getElem_cons_zero]
      exact hk
  · obtain ⟨q1, q2, q3, q4, q5⟩ := h10 b hb
    refine ⟨q1, by omega, q3, q4, fun e => ?_⟩
    have e' : b = g' := by simpa [Value.ownBlock] using e
    rcases hat with h | h
    · exact q5 (by rw [h, e'])
    · omega
  · refine ((((Below.refl lo W).alloc hlo _).grown hgrow (by simp; omega) (fun k e => (h4.lt k e).1)).setCell (p := ⟨P, 0, none⟩) h2 _).grown hg3 (by simp; omega) (fun k e => by cases e; exact h3)

/-- What add leaves. -/
def Added (lo : Nat) (w : World) (P : Nat) (S : Nat → Prop) (s : List B) (w' : World) : Prop := Bnd lo w' P S s ∧ Below lo w w' ∧ ∀ b, S b → w'.heap[b]? = w.heap[b]?

set_option maxRecDepth 100000 in
set_option maxHeartbeats 2000000 in
theorem add_any (lo P p : Nat) (S : Nat → Prop) (s : List B) (y : B) (w : World) (hs : s.length ≤ 4194304) (hB : Bnd lo w P S s) (hlo : lo ≤ w.heap.size) (hy : y.v ∉ s.map (·.v)) (hw : (Lit.int .i64 y.v).wf = true) (ht : TreeAt S w p y.t) :
    Calls Try.prog 92 #[.pointer (some ⟨P, 0, none⟩), .int .i64 y.v, .pointer (some ⟨p, 0, none⟩)] w fun e w' => (∃ v, e = .returned v) ∧ Added lo w P S (s ++ [y]) w' := by
  obtain ⟨ov, M, n, D, rs, h1, h2, h3, h4, h5, h6, h7, h8, h9, h10⟩ := hB
  obtain ⟨i0, hi, hz0, hz1, hz2⟩ := info_parts Try.infoInt
  obtain ⟨c0, c1, f0⟩ := h1.cells
  have hPl := h1.lt
  have hzl : (s.map (·.v)).length ≤ 4194304 := by simpa using hs
  have hn : n < maxLen := by unfold maxLen; omega
  have HMID := hide (fun (w1 : World) (g' cap' : Nat) => add_mid (x := y.v) (w1 := w1) (g' := g') (cap' := cap') h1 h4 h5)
  have HADD := hide (fun (w1 w3 : World) (g' cap' : Nat) => bnd_add (w1 := w1) (w3 := w3) (g' := g') (cap' := cap') h1 h2 h3 h4 h5 h6 h7 h8 h9 h10 hlo hy ht)
  clear h7 h8 h9 h10 h5 h6
  obtain ⟨z, hz⟩ : ∃ z, z = s.map (·.v) := ⟨_, rfl⟩
  rw [← hz] at h4 hzl HMID HADD
  clear hz hy ht hs
  go_enter Try.func92, Try.ntmps92
  go_wp2_with (first
    | (at_builtin; refine wpList_append_lies _ rfl _ _ 40 rfl lo 3 i0 (.int .i64 0) 1 8 Try.underlying40 hi hz0 hz1 hz2 rfl (by decide) ov z.length _ rfl (World.ownsRow.alloc h4 _) ⟨w.heap.size, 0, none⟩ 1 1 [.int .i64 y.v] rfl rfl (cell_one_new _ _ _) (by simp [Value.oneCell']) (by omega) (by unfold maxLen; omega) (by omega) (by simp; omega) (w.heap.size + 1) (by simp) ?_; intro g' cap' w1 hown' hgrow hat hgl'; obtain ⟨e1, e2, e3⟩ := unhide HMID w1 g' cap' hgrow; obtain ⟨d0, d1, d2⟩ := e1.cells; obtain ⟨d3, d4, d5⟩ := e3.cells)
    | (at_mapUpdate; refine wpList_mapUpdate_own _ rfl _ _ _ 113 rfl 3 80 (int_keyed Try.underlying3) Try.underlying113 _ M n D rfl e2 hn _ _ _ rfl rfl (keyOf_int_mk Try.underlying3 hw) (.lit (.int .i64 (p : Int))) [] rfl ?_; intro w3 hmap3 hgrow3))
  go_end0
  exact ⟨⟨_, rfl⟩, unhide HADD w1 w3 g' cap' hown' hgrow hat hmap3 hgrow3⟩
end Go.Proofs.Ytmelmlkogaageaa

/- The walks of TrmSame, of the model and of the program (slices.Equal). -/
namespace Go.Proofs.Ytmelmlkogaageaa
open Go.RowKit
set_option linter.unusedVariables false
set_option linter.unusedSimpArgs false

theorem Try.heldCell : Try.prog.stoodInHeld 46 = false := by kernel_rfl
theorem Try.fieldsCell : Try.prog.underlying 46 = some (.struct (Try.prog.fieldsOf 46)) := by kernel_rfl
theorem Try.guardCell : Try.prog.eqGuardType Try.prog.depth 46 = false := by kernel_rfl

theorem neq_cell (c d : C) (w : World) : (binOp .neq 46 (.agg #[.int .i64 c.k, .int .i64 c.n, .string c.s]) (.agg #[.int .i64 d.k, .int .i64 d.n, .string d.s])).run Try.prog w = .ok (.bool (!same c d)) w := by
  rw [run_neq_struct, run_equalIn_agg w 9999 46 _ _ Try.fieldsCell Try.heldCell]
  by_cases h1 : c.k = d.k
  · by_cases h2 : c.n = d.n
    · simp [Program.fieldsOf, Try.underlying46, Op.eqFields, go_sem, same, h1, h2, ByteArray.toList_eq]
      by_cases h3 : c.s.data = d.s.data
      · simp [h3]
      · simp [h3]
    · simp [Program.fieldsOf, Try.underlying46, Op.eqFields, go_sem, same, h1, h2]
  · simp [Program.fieldsOf, Try.underlying46, Op.eqFields, go_sem, same, h1]

end Go.Proofs.Ytmelmlkogaageaa

/- The walk of caTerm; treeOf and TrmShift where places are no term. -/
namespace Go.Proofs.Ytmelmlkogaageaa
open Go.RowKit
set_option linter.unusedVariables false
set_option linter.unusedSimpArgs false

set_option maxHeartbeats 1000000 in
theorem caTerm_some (b off cap b' off' cap' : Nat) (t u : List C) (w : World) (hm : t.length ≤ maxLen) (hA : At w b off t) (hU : At w b' off' u) (hl : t.length = u.length) :
    Calls Try.prog 29 #[.slice (some ⟨b, off, none⟩) t.length cap, .slice (some ⟨b', off', none⟩) u.length cap'] w fun e w' => e = .returned (.bool (sameS t u)) ∧ Below w.heap.size w w' := by
  unfold maxLen at hm
  have hne : ((t.length : Int) != (u.length : Int)) = false := by simp; omega
  have hul : u.length ≤ 2 ^ 63 - 1 := by omega
  have HL := hide hl
  clear hl
  go_enter Try.func29, Try.ntmps29
  go_wp2
  go_loopw [5] (fun i wr => ∃ (k : Nat), k ≤ t.length ∧ i = .int .i64 k ∧ t.take k = u.take k ∧ Below w.heap.size w wr) (fun i _ => t.length - (intOf i).toNat)
  case atStart => exact ⟨0, Nat.zero_le _, rfl, rfl, Below.refl _ _⟩
  case round =>
    obtain ⟨k, hk, rfl, hx, hB⟩ := hrel
    have HX := hide hx
    clear hx
    by_cases hlt : k < t.length
    · have hlu : k < u.length := by rw [← unhide HL]; exact hlt
      obtain ⟨c0, c1, c2⟩ := (hA.below hB) k hlt
      obtain ⟨d0, d1, d2⟩ := (hU.below hB) k hlu
      obtain ⟨c, hc⟩ : ∃ c, c = t[k] := ⟨_, rfl⟩
      rw [← hc] at c0 c1 c2
      have HC := hide hc
      clear hc
      obtain ⟨d, hd⟩ : ∃ d, d = u[k] := ⟨_, rfl⟩
      rw [← hd] at d0 d1 d2
      have HD := hide hd
      clear hd
      have hneq := neq_cell c d
      cases hsm : same c d with
      | false =>
        rw [hsm] at hneq
        go_wp2
        go_quiet (fail)
        go_wp2
        go_ret
        refine ⟨ret_bool (sameS_no (fun h => ?_)).symm, ?_⟩
        · have e : c = d := by rw [unhide HC, unhide HD]; simp [h]
          rw [(same_iff c d).2 e] at hsm; cases hsm
        · exact below_drewN hB _
      | true =>
        rw [hsm] at hneq
        go_wp2
        go_quiet (fail)
        go_wp2
        go_roundw
        case rel => exact ⟨k + 1, by omega, by go_num, by rw [List.take_succ_eq_append_getElem hlt, List.take_succ_eq_append_getElem hlu, unhide HX, ← unhide HC, ← unhide HD, (same_iff c d).1 hsm], below_drewN hB _⟩
        case measure => simp [intOf]; omega
    · go_wp2
      go_ret
      refine ⟨ret_bool (sameS_yes ?_).symm, hB⟩
      have := unhide HX
      rw [List.take_of_length_le (by omega), List.take_of_length_le (by rw [← unhide HL]; omega)] at this
      exact this

set_option maxHeartbeats 400000 in
theorem caTerm_far (ao bo : Option Addr) (n m cap cap' : Nat) (w : World) (hl : n ≠ m) :
    Calls Try.prog 29 #[.slice ao n cap, .slice bo m cap'] w fun e w' => e = .returned (.bool false) ∧ Below w.heap.size w w' := by
  have hne : ((n : Int) != (m : Int)) = true := by rw [bne_iff_ne]; omega
  go_enter Try.func29, Try.ntmps29
  go_wp2
  go_ret
  exact ⟨rfl, Below.refl _ _⟩

set_option maxHeartbeats 400000 in
theorem caTerm_none (ao bo : Option Addr) (cap cap' : Nat) (w : World) :
    Calls Try.prog 29 #[.slice ao 0 cap, .slice bo 0 cap'] w fun e w' => e = .returned (.bool true) ∧ Below w.heap.size w w' := by
  go_enter Try.func29, Try.ntmps29
  go_wp2
  refine wp_loop_rounds 1 ?_
  rw [rounds_succ]
  go_wp2
  go_ret
  exact ⟨rfl, Below.refl _ _⟩

theorem caTerm_any (ao bo : Option Addr) (cap cap' : Nat) (t u : List C) (w : World) (hm : t.length ≤ maxLen) (hA : Row w ao t) (hU : Row w bo u) :
    Calls Try.prog 29 #[.slice ao t.length cap, .slice bo u.length cap'] w fun e w' => e = .returned (.bool (sameS t u)) ∧ Below w.heap.size w w' := by
  by_cases hl : t.length = u.length
  · rcases hA with rfl | ⟨b, off, rfl, hA⟩
    · have hu : u = [] := List.length_eq_zero_iff.1 hl.symm
      subst hu
      exact caTerm_none ao bo cap cap' w
    · rcases hU with rfl | ⟨b', off', rfl, hU⟩
      · have ht : t = [] := List.length_eq_zero_iff.1 hl
        subst ht
        exact caTerm_none _ bo cap cap' w
      · exact caTerm_some b off cap b' off' cap' t u w hm hA hU hl
  · rw [sameS_no (fun h => hl (by rw [h]))]
    exact caTerm_far ao bo _ _ cap cap' w hl


set_option maxHeartbeats 400000 in
theorem treeOf_no (ao : Option Addr) (cap : Nat) (t : List C) (w : World) (hm : t.length ≤ maxLen) (hA : Row w ao t) (hF : Fit t) (hn : trm t = false) :
    Calls Try.prog 64 #[.slice ao t.length cap] w fun e w' => e = .returned (.pointer none) ∧ Below w.heap.size w w' := by
  have H := hide (TrmOk_any ao cap t w hm hA hF)
  rw [hn] at H
  go_enter Try.func64, Try.ntmps64
  go_wp2_with fail
  refine (unhide H).mono ?_
  rintro e w1 ⟨rfl, hb1⟩
  go_wp2
  go_ret
  exact ⟨rfl, hb1⟩

end Go.Proofs.Ytmelmlkogaageaa
