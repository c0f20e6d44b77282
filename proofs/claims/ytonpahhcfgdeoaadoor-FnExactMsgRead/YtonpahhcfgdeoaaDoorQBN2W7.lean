import Derived.Test.YtonpahhcfgdeoaaDoorQT3T4BN1
import Derived.Deep.AppendLies
import Derived.Test.YtonpahhcfgdeoaaDoorQYS1YX1YB4W6W14YB5YT0
import Derived.Laws.StructEq
import Derived.Deep.QuietTactic
import Derived.BigQuiet
import Derived.WalkSmall
/- The walk of add. -/
namespace Go.Proofs.YtonpahhcfgdeoaaDoor
open Go.RowKit Go.Maps
set_option linter.unusedVariables false
set_option linter.unusedSimpArgs false

theorem Strt.not_row {W : World} {P M : Nat} {ov : Value} (h : Strt W P ov M) {base size k : Nat} {v : Value} {xs : List Value} (hr : W.ownsRow base 133 size v k xs) : some P ≠ v.ownBlock := by
  rcases hr.2 with ⟨rfl, _⟩ | ⟨g, cap, cur, rfl, _, hgb, _⟩
  · simp [Value.ownBlock]
  · intro e'
    obtain rfl : P = g := by simpa [Value.ownBlock] using e'
    have := (show W.heap[P]? = _ from h).symm.trans hgb
    simp at this
theorem map_not_row {W : World} {M n k : Nat} {R : Value → Option (DataW Unit × List MemPlace)} {D : DataW Unit} (h : W.ownsMap Tryd.prog k R M n D) {base e size k : Nat} {v : Value} {xs : List Value} (hr : W.ownsRow base e size v k xs) : some M ≠ v.ownBlock := by
  obtain ⟨es, clock, hm, _⟩ := h
  rcases hr.2 with ⟨rfl, _⟩ | ⟨g, cap, cur, rfl, _, hgb, _⟩
  · simp [Value.ownBlock]
  · intro e'
    obtain rfl : M = g := by simpa [Value.ownBlock] using e'
    rw [hm] at hgb
    cases hgb
theorem Strt.not_map {W : World} {P M M' n k : Nat} {R : Value → Option (DataW Unit × List MemPlace)} {ov : Value} {D : DataW Unit} (h : Strt W P ov M) (hm : W.ownsMap Tryd.prog k R M' n D) : P ≠ M' := by
  obtain ⟨es, clock, hm, _⟩ := hm
  intro e
  subst e
  have := (show W.heap[P]? = _ from h).symm.trans hm
  cases this

/-- What stands once the map has turned. -/
theorem add_mid {lo P M n : Nat} {W w1 : World} {ov : Value} {D : DataW Unit} {s : List B} {rs : List Nat} (h1 : Strt W P ov M) (h4 : OwnL W lo ov s rs) (h5 : W.ownsMap Tryd.prog 3 (plainElem Tryd.prog 3) M n D)
    (hg : W.grownBy w1 (some M)) : Strt w1 P ov M ∧ OwnL w1 lo ov s rs := by
  have hPM := h1.not_map h5
  refine ⟨(hg.block P h1.lt (by simpa using hPM)).trans h1, own_block h4.1 (fun k e => hg.block k (h4.1.lt k e).2 (fun e' => ?_)), h4.2⟩
  exact map_not_row h5 h4.1 (by rw [e]; exact e'.symm)

theorem bnd_add {lo P M n g' cap' p : Nat} {W w1 w2 : World} {S : Nat → Prop} {s : List B} {ov : Value} {D : DataW Unit} {rs : List Nat} {y : B} (h1 : Strt W P ov M) (h2 : lo ≤ P) (h3 : lo ≤ M) (h4 : OwnL W lo ov s rs) (h5 : W.ownsMap Tryd.prog 3 (plainElem Tryd.prog 3) M n D) (h6 : n ≤ s.length) (h7 : TabL s D)
    (h9 : ∀ i, (h : i < s.length) → (h' : i < rs.length) → TreeAt S W rs[i] s[i].t) (h10 : ∀ b, S b → lo ≤ b ∧ b < W.heap.size ∧ b ≠ P ∧ b ≠ M ∧ some b ≠ ov.ownBlock) (hlo : lo ≤ W.heap.size)
    (hy : y.v ∉ s.map (·.v)) (ht : TreeAt S W p y.t)
    (hmap : w1.ownsMap Tryd.prog 3 (plainElem Tryd.prog 3) M (n + 1) (D.put (.int .i64 y.v) (.lit (.int .i64 (s.length : Int)))))
    (hg1 : W.grownBy w1 (some M))
    (hown' : w2.ownsRow lo 133 2 (.slice (some ⟨g', 0, none⟩) (s.length + 1) cap') (s.length + 1) (flatB s (ptrs rs) ++ [.int .i64 y.v, .pointer (some ⟨p, 0, none⟩)]))
    (hgrow : (w1.alloc (.cells #[.int .i64 y.v, .pointer (some ⟨p, 0, none⟩)] 133)).grownBy w2 ov.ownBlock) (hat : ov.ownBlock = some g' ∨ g' = w1.heap.size + 1) :
    Bnd lo (w2.setCell ⟨P, 0, none⟩ (.slice (some ⟨g', 0, none⟩) (s.length + 1) cap')) P S (s ++ [y]) ∧ Below lo W (w2.setCell ⟨P, 0, none⟩ (.slice (some ⟨g', 0, none⟩) (s.length + 1) cap')) ∧ ∀ b, S b → (w2.setCell ⟨P, 0, none⟩ (.slice (some ⟨g', 0, none⟩) (s.length + 1) cap')).heap[b]? = W.heap[b]? := by
  obtain ⟨e1, e4⟩ := add_mid h1 h4 h5 hg1
  have hPM := h1.not_map h5
  have hs0 := hg1.size
  have hs1 := hgrow.size
  simp at hs1
  have hl4 := h4.2
  have keep : ∀ b, S b → (w2.setCell ⟨P, 0, none⟩ (.slice (some ⟨g', 0, none⟩) (s.length + 1) cap')).heap[b]? = W.heap[b]? := fun b hb => by
    obtain ⟨q1, q2, q3, q4, q5⟩ := h10 b hb
    exact (Below.heap_setCell _ _ _ b q3).trans ((hgrow.block b (by simp; omega) q5).trans ((Below.heap_alloc w1 _ b (by omega)).trans (hg1.block b q2 (by simpa using q4))))
  have hne : g' ≠ P := by
    rcases hat with h | h
    · intro e; subst e; exact e1.not_row e4.1 h.symm
    · have := e1.lt; omega
  have hneM : g' ≠ M := by
    have := hmap.lt
    rcases hat with h | h
    · intro e; subst e; exact map_not_row hmap e4.1 h.symm
    · omega
  have e2 : Strt w2 P ov M := (hgrow.block P (by have := e1.lt; simp; omega) (e1.not_row e4.1)).trans ((Below.heap_alloc w1 _ P e1.lt).trans e1)
  have e3 := e2.set (.slice (some ⟨g', 0, none⟩) (s.length + 1) cap')
  have e5 := World.ownsMap.setCell ((World.ownsMap.alloc hmap (.cells #[.int .i64 y.v, .pointer (some ⟨p, 0, none⟩)] 133)).kept hgrow (map_not_row hmap e4.1)) (a := ⟨P, 0, none⟩) (fun e => hPM e.symm) (.slice (some ⟨g', 0, none⟩) (s.length + 1) cap')
  refine ⟨⟨_, M, n + 1, _, rs ++ [p], e3, h2, h3, ⟨?_, by simp [hl4]⟩, e5, by simp; omega, tabL_put h7 hy, fun i hi hi' => ?_, fun b hb => ?_⟩, ?_, keep⟩
  · rw [flatP_snoc s rs y p hl4, show (s ++ [y]).length = s.length + 1 by simp]
    refine own_block hown' (fun k e => ?_)
    have e' : g' = k := by simpa [Value.ownBlock] using e
    subst e'
    exact Below.heap_setCell _ _ _ g' hne
  · have hk : TreeAt S (w2.setCell ⟨P, 0, none⟩ (.slice (some ⟨g', 0, none⟩) (s.length + 1) cap')) p y.t := ht.kept (fun _ h => h) keep
    by_cases hl : i < s.length
    · have hl' : i < rs.length := by omega
      rw [List.getElem_append_left hl, List.getElem_append_left hl']
      exact (h9 i hl hl').kept (fun _ h => h) keep
    · have e : i = s.length := by simp at hi; omega
      have e' : i = rs.length := by omega
      subst e
      rw [List.getElem_append_right (Nat.le_refl _)]
      simp only [hl4, Nat.sub_self, List.getElem_cons_zero]
      rw [List.getElem_append_right (by omega)]
      simp only [hl4, Nat.sub_self, List.getElem_cons_zero]
      exact hk
  · obtain ⟨q1, q2, q3, q4, q5⟩ := h10 b hb
    refine ⟨q1, by simp; omega, q3, q4, fun e => ?_⟩
    have e' : b = g' := by simpa [Value.ownBlock] using e
    rcases hat with h | h
    · exact q5 (by rw [h, e'])
    · omega
  · refine (((((Below.refl lo W).grown hg1 (by omega) (fun k e => by cases e; exact h3)).alloc (by omega) _).grown hgrow (by simp; omega) (fun k e => (h4.1.lt k e).1)).setCell (p := ⟨P, 0, none⟩) h2 _)

/-- What add leaves. -/
def Added (lo : Nat) (w : World) (P : Nat) (S : Nat → Prop) (s : List B) (w' : World) : Prop := Bnd lo w' P S s ∧ Below lo w w' ∧ ∀ b, S b → w'.heap[b]? = w.heap[b]?

theorem Tryd.infoBound : (Tryd.prog.info? 133).map (fun i => (i.zero, i.size, i.bytes)) = some (some (.agg #[.int .i64 0, .pointer none]), 2, 16) := by kernel_rfl

theorem two_cells (w : World) (x y : Value) (T N : Nat) (hN : w.heap.size = N) : ∀ j u, [x, y][j]? = some u → (w.alloc (.cells #[x, y] T)).cell? ((⟨N, 0, none⟩ : Addr).add j) = some u := by
  subst hN
  intro j u h
  match j with
  | 0 => simp at h; subst h; simp [go_sem, Addr.add]
  | 1 => simp at h; subst h; simp [go_sem, Addr.add]
  | j + 2 => simp at h

theorem ownsMap_drew {w : World} {k M n : Nat} {R : Value → Option (DataW Unit × List MemPlace)} {D : DataW Unit} (h : w.ownsMap Tryd.prog k R M n D) : w.drew.ownsMap Tryd.prog k R M n D := by
  obtain ⟨es, clock, hm, r⟩ := h
  exact ⟨es, clock, hm, r⟩

set_option maxRecDepth 100000 in
set_option maxHeartbeats 2000000 in
theorem add_any (lo P p : Nat) (S : Nat → Prop) (s : List B) (y : B) (w : World) (hs : s.length ≤ 4194304) (hB : Bnd lo w P S s) (hlo : lo ≤ w.heap.size) (hy : y.v ∉ s.map (·.v)) (hw : (Lit.int .i64 y.v).wf = true) (ht : TreeAt S w p y.t) :
    Calls Tryd.prog 86 #[.pointer (some ⟨P, 0, none⟩), .int .i64 y.v, .pointer (some ⟨p, 0, none⟩)] w fun e w' => (∃ v, e = .returned v) ∧ Added lo w P S (s ++ [y]) w' := by
  have hBd := hB.drew
  have htd : TreeAt S w.drew p y.t := ht.kept (fun _ h => h) (fun _ _ => rfl)
  obtain ⟨ov, M, n, D, rs, h1, h2, h3, h4, h5, h6, h7, h9, h10⟩ := hBd
  obtain ⟨i0, hi, hz0, hz1, hz2⟩ := info_parts Tryd.infoBound
  obtain ⟨c0, c1, f0⟩ := h1.cells
  have c0' : w.cell? ⟨P, 0, none⟩ = some ov := c0
  have c1' : w.cell? ⟨P, 1, none⟩ = some (.map (some M)) := c1
  have hPl := h1.lt
  have hn : n < maxLen := by unfold maxLen; omega
  have hwl : (Lit.int .i64 (s.length : Int)).wf = true := WalkArith.wf_i64 (by omega)
  obtain ⟨w1, hrun, hmap, hg1⟩ := h5.update (int_keyed Tryd.underlying3) (t := 102) (e := 3) Tryd.underlying102 hn (keyOf_int_mk Tryd.underlying3 hw) (plainElem_int Tryd.underlying3 hwl)
  obtain ⟨e1, e4⟩ := add_mid h1 h4 h5 hg1
  obtain ⟨d0, d1, d2⟩ := e1.cells
  have hPl1 := e1.lt
  have hs1 := hg1.size
  have HADD := hide (fun (w2 : World) (g' cap' : Nat) => bnd_add (w2 := w2) (g' := g') (cap' := cap') h1 h2 h3 h4 h5 h6 h7 h9 h10 hlo hy htd hmap hg1)
  have HB0 := hide (drew_below w)
  obtain ⟨ao, cap, rfl, _⟩ := h4.shape
  clear h7 h9 h10 h6 h4 h5 hmap hB
  go_enter Tryd.func86, Tryd.ntmps86
  go_wp2
  go_region
  go_wp2_with (at_builtin; refine wpList_append_lies _ rfl _ _ 119 rfl lo 133 i0 _ 2 16 Tryd.underlying119 hi hz0 hz1 hz2 rfl (by decide) _ s.length _ rfl (World.ownsRow.alloc e4.1 _) ⟨w1.heap.size, 0, none⟩ 1 1 [.int .i64 y.v, .pointer (some ⟨p, 0, none⟩)] rfl rfl (two_cells w1 _ _ _ _ rfl) (by simp [Value.oneCell']) (by omega) (by unfold maxLen; omega) (by omega) (by simp; omega) (w1.heap.size + 1) (by simp) ?_; intro g' cap' w2 hown' hgrow hat hgl'; have e2 : Strt w2 P (.slice ao s.length cap) M := (hgrow.block P (by simp; omega) (e1.not_row e4.1)).trans ((Below.heap_alloc w1 _ P e1.lt).trans e1); obtain ⟨r0, r1, r2⟩ := e2.cells)
  go_end0
  obtain ⟨a1, a2, a3⟩ := unhide HADD w2 g' cap' hown' hgrow hat
  exact ⟨⟨_, rfl⟩, a1, ((Below.refl lo w).drew).trans a2, a3⟩
end Go.Proofs.YtonpahhcfgdeoaaDoor

/- The walks of TrmSame, of the model and of the program (slices.Equal). -/
namespace Go.Proofs.YtonpahhcfgdeoaaDoor
open Go.RowKit
set_option linter.unusedVariables false
set_option linter.unusedSimpArgs false

theorem Tryd.heldCell : Tryd.prog.stoodInHeld 55 = false := by kernel_rfl
theorem Tryd.fieldsCell : Tryd.prog.underlying 55 = some (.struct (Tryd.prog.fieldsOf 55)) := by kernel_rfl
theorem Tryd.guardCell : Tryd.prog.eqGuardType Tryd.prog.depth 55 = false := by kernel_rfl

theorem neq_cell (c d : C) (w : World) : (binOp .neq 55 (.agg #[.int .i64 c.k, .int .i64 c.n, .string c.s]) (.agg #[.int .i64 d.k, .int .i64 d.n, .string d.s])).run Tryd.prog w = .ok (.bool (!same c d)) w := by
  rw [run_neq_struct, run_equalIn_agg w 9999 55 _ _ Tryd.fieldsCell Tryd.heldCell]
  by_cases h1 : c.k = d.k
  · by_cases h2 : c.n = d.n
    · simp [Program.fieldsOf, Tryd.underlying55, Op.eqFields, go_sem, same, h1, h2, ByteArray.toList_eq]
      by_cases h3 : c.s.data = d.s.data
      · simp [h3]
      · simp [h3]
    · simp [Program.fieldsOf, Tryd.underlying55, Op.eqFields, go_sem, same, h1, h2]
  · simp [Program.fieldsOf, Tryd.underlying55, Op.eqFields, go_sem, same, h1]

set_option maxHeartbeats 1000000 in
theorem specTrmSame_some (b off cap b' off' cap' : Nat) (t u : List C) (w : World) (hm : t.length ≤ maxLen) (hA : At w b off t) (hU : At w b' off' u) (hl : t.length = u.length) :
    Calls Tryd.prog 48 #[.slice (some ⟨b, off, none⟩) t.length cap, .slice (some ⟨b', off', none⟩) u.length cap'] w fun e w' => e = .returned (.bool (sameS t u)) ∧ Below w.heap.size w w' := by
  unfold maxLen at hm
  have hne : ((t.length : Int) != (u.length : Int)) = false := by simp; omega
  have hul : u.length ≤ 2 ^ 63 - 1 := by omega
  have HL := hide hl
  clear hl
  go_enter Tryd.func48, Tryd.ntmps48
  go_wp2
  go_loopw [5] (fun i wr => ∃ (k : Nat), k ≤ t.length ∧ i = .int .i64 k ∧ t.take k = u.take k ∧ Below w.heap.size w wr) (fun i _ => t.length - (intOf i).toNat)
  case atStart => exact ⟨0, Nat.zero_le _, rfl, rfl, Below.refl _ _⟩
  case round =>
    obtain ⟨k, hk, rfl, hx, hB⟩ := hrel
    have HX := hide hx
    clear hx
    by_cases hlt : k < t.length
    · have hlu : k < u.length := by rw [← unhide HL]; exact hlt
      obtain ⟨c0, c1, c2⟩ := (hA.below hB) k hlt
      obtain ⟨d0, d1, d2⟩ := (hU.below hB) k hlu
      obtain ⟨c, hc⟩ : ∃ c, c = t[k] := ⟨_, rfl⟩
      rw [← hc] at c0 c1 c2
      have HC := hide hc
      clear hc
      obtain ⟨d, hd⟩ : ∃ d, d = u[k] := ⟨_, rfl⟩
      rw [← hd] at d0 d1 d2
      have HD := hide hd
      clear hd
      have hneq := neq_cell c d
      cases hsm : same c d with
      | false =>
        rw [hsm] at hneq
        go_wp2
        go_quiet (fail)
        go_wp2
        go_ret
        refine ⟨ret_bool (sameS_no (fun h => ?_)).symm, ?_⟩
        · have e : c = d := by rw [unhide HC, unhide HD]; simp [h]
          rw [(same_iff c d).2 e] at hsm; cases hsm
        · exact below_drewN hB _
      | true =>
        rw [hsm] at hneq
        go_wp2
        go_quiet (fail)
        go_wp2
        go_roundw
        case rel => exact ⟨k + 1, by omega, by go_num, by rw [List.take_succ_eq_append_getElem hlt, List.take_succ_eq_append_getElem hlu, unhide HX, ← unhide HC, ← unhide HD, (same_iff c d).1 hsm], below_drewN hB _⟩
        case measure => simp [intOf]; omega
    · go_wp2
      go_ret
      refine ⟨ret_bool (sameS_yes ?_).symm, hB⟩
      have := unhide HX
      rw [List.take_of_length_le (by omega), List.take_of_length_le (by rw [← unhide HL]; omega)] at this
      exact this

set_option maxHeartbeats 400000 in
theorem specTrmSame_far (ao bo : Option Addr) (n m cap cap' : Nat) (w : World) (hl : n ≠ m) :
    Calls Tryd.prog 48 #[.slice ao n cap, .slice bo m cap'] w fun e w' => e = .returned (.bool false) ∧ Below w.heap.size w w' := by
  have hne : ((n : Int) != (m : Int)) = true := by rw [bne_iff_ne]; omega
  go_enter Tryd.func48, Tryd.ntmps48
  go_wp2
  go_ret
  exact ⟨rfl, Below.refl _ _⟩

set_option maxHeartbeats 400000 in
theorem specTrmSame_none (ao bo : Option Addr) (cap cap' : Nat) (w : World) :
    Calls Tryd.prog 48 #[.slice ao 0 cap, .slice bo 0 cap'] w fun e w' => e = .returned (.bool true) ∧ Below w.heap.size w w' := by
  go_enter Tryd.func48, Tryd.ntmps48
  go_wp2
  refine wp_loop_rounds 1 ?_
  rw [rounds_succ]
  go_wp2
  go_ret
  exact ⟨rfl, Below.refl _ _⟩

theorem specTrmSame_any (ao bo : Option Addr) (cap cap' : Nat) (t u : List C) (w : World) (hm : t.length ≤ maxLen) (hA : Row w ao t) (hU : Row w bo u) :
    Calls Tryd.prog 48 #[.slice ao t.length cap, .slice bo u.length cap'] w fun e w' => e = .returned (.bool (sameS t u)) ∧ Below w.heap.size w w' := by
  by_cases hl : t.length = u.length
  · rcases hA with rfl | ⟨b, off, rfl, hA⟩
    · have hu : u = [] := List.length_eq_zero_iff.1 hl.symm
      subst hu
      exact specTrmSame_none ao bo cap cap' w
    · rcases hU with rfl | ⟨b', off', rfl, hU⟩
      · have ht : t = [] := List.length_eq_zero_iff.1 hl
        subst ht
        exact specTrmSame_none _ bo cap cap' w
      · exact specTrmSame_some b off cap b' off' cap' t u w hm hA hU hl
  · rw [sameS_no (fun h => hl (by rw [h]))]
    exact specTrmSame_far ao bo _ _ cap cap' w hl

set_option maxHeartbeats 1000000 in
theorem slicesEqual_some (b off cap b' off' cap' : Nat) (t u : List C) (w : World) (hm : t.length ≤ maxLen) (hA : At w b off t) (hU : At w b' off' u) (hl : t.length = u.length) :
    Calls Tryd.prog 71 #[.slice (some ⟨b, off, none⟩) t.length cap, .slice (some ⟨b', off', none⟩) u.length cap'] w fun e w' => e = .returned (.bool (sameS t u)) ∧ Below w.heap.size w w' := by
  unfold maxLen at hm
  have hne : ((t.length : Int) != (u.length : Int)) = false := by simp; omega
  have hul : u.length ≤ 2 ^ 63 - 1 := by omega
  have HL := hide hl
  clear hl
  go_enter Tryd.func71, Tryd.ntmps71
  go_wp2
  go_loopw [5, 13] (fun _ i wr => ∃ (k : Nat), k ≤ t.length ∧ i = .int .i64 k ∧ t.take k = u.take k ∧ Below w.heap.size w wr) (fun _ i _ => t.length - (intOf i).toNat)
  case atStart => exact ⟨0, Nat.zero_le _, rfl, rfl, Below.refl _ _⟩
  case round =>
    obtain ⟨k, hk, rfl, hx, hB⟩ := hrel
    have HX := hide hx
    clear hx
    by_cases hlt : k < t.length
    · have hlu : k < u.length := by rw [← unhide HL]; exact hlt
      obtain ⟨c0, c1, c2⟩ := (hA.below hB) k hlt
      obtain ⟨d0, d1, d2⟩ := (hU.below hB) k hlu
      obtain ⟨c, hc⟩ : ∃ c, c = t[k] := ⟨_, rfl⟩
      rw [← hc] at c0 c1 c2
      have HC := hide hc
      clear hc
      obtain ⟨d, hd⟩ : ∃ d, d = u[k] := ⟨_, rfl⟩
      rw [← hd] at d0 d1 d2
      have HD := hide hd
      clear hd
      have hneq := neq_cell c d
      cases hsm : same c d with
      | false =>
        rw [hsm] at hneq
        go_wp2
        go_quiet (fail)
        go_wp2
        go_ret
        refine ⟨ret_bool (sameS_no (fun h => ?_)).symm, ?_⟩
        · have e : c = d := by rw [unhide HC, unhide HD]; simp [h]
          rw [(same_iff c d).2 e] at hsm; cases hsm
        · exact below_drewN hB _
      | true =>
        rw [hsm] at hneq
        go_wp2
        go_quiet (fail)
        go_wp2
        go_roundw
        case rel => exact ⟨k + 1, by omega, by go_num, by rw [List.take_succ_eq_append_getElem hlt, List.take_succ_eq_append_getElem hlu, unhide HX, ← unhide HC, ← unhide HD, (same_iff c d).1 hsm], below_drewN hB _⟩
        case measure => simp [intOf]; omega
    · go_wp2
      go_ret
      refine ⟨ret_bool (sameS_yes ?_).symm, hB⟩
      have := unhide HX
      rw [List.take_of_length_le (by omega), List.take_of_length_le (by rw [← unhide HL]; omega)] at this
      exact this

set_option maxHeartbeats 400000 in
theorem slicesEqual_far (ao bo : Option Addr) (n m cap cap' : Nat) (w : World) (hl : n ≠ m) :
    Calls Tryd.prog 71 #[.slice ao n cap, .slice bo m cap'] w fun e w' => e = .returned (.bool false) ∧ Below w.heap.size w w' := by
  have hne : ((n : Int) != (m : Int)) = true := by rw [bne_iff_ne]; omega
  go_enter Tryd.func71, Tryd.ntmps71
  go_wp2
  go_ret
  exact ⟨rfl, Below.refl _ _⟩

set_option maxHeartbeats 400000 in
theorem slicesEqual_none (ao bo : Option Addr) (cap cap' : Nat) (w : World) :
    Calls Tryd.prog 71 #[.slice ao 0 cap, .slice bo 0 cap'] w fun e w' => e = .returned (.bool true) ∧ Below w.heap.size w w' := by
  go_enter Tryd.func71, Tryd.ntmps71
  go_wp2
  refine wp_loop_rounds 1 ?_
  rw [rounds_succ]
  go_wp2
  go_ret
  exact ⟨rfl, Below.refl _ _⟩

theorem slicesEqual_any (ao bo : Option Addr) (cap cap' : Nat) (t u : List C) (w : World) (hm : t.length ≤ maxLen) (hA : Row w ao t) (hU : Row w bo u) :
    Calls Tryd.prog 71 #[.slice ao t.length cap, .slice bo u.length cap'] w fun e w' => e = .returned (.bool (sameS t u)) ∧ Below w.heap.size w w' := by
  by_cases hl : t.length = u.length
  · rcases hA with rfl | ⟨b, off, rfl, hA⟩
    · have hu : u = [] := List.length_eq_zero_iff.1 hl.symm
      subst hu
      exact slicesEqual_none ao bo cap cap' w
    · rcases hU with rfl | ⟨b', off', rfl, hU⟩
      · have ht : t = [] := List.length_eq_zero_iff.1 hl
        subst ht
        exact slicesEqual_none _ bo cap cap' w
      · exact slicesEqual_some b off cap b' off' cap' t u w hm hA hU hl
  · rw [sameS_no (fun h => hl (by rw [h]))]
    exact slicesEqual_far ao bo _ _ cap cap' w hl

set_option maxHeartbeats 400000 in
theorem TrmSame_any (ao bo : Option Addr) (cap cap' : Nat) (t u : List C) (w : World) (hm : t.length ≤ maxLen) (hA : Row w ao t) (hU : Row w bo u) :
    Calls Tryd.prog 56 #[.slice ao t.length cap, .slice bo u.length cap'] w fun e w' => e = .returned (.bool (sameS t u)) ∧ Below w.heap.size w w' := by
  go_enter Tryd.func56, Tryd.ntmps56
  go_wp2_with fail
  refine (slicesEqual_any ao bo cap cap' t u _ hm hA hU).mono ?_
  rintro e w1 ⟨rfl, hb1⟩
  go_wp2
  go_ret
  exact ⟨rfl, hb1⟩
end Go.Proofs.YtonpahhcfgdeoaaDoor
