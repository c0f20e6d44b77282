import Derived.Test.YthgfhimhgeohcaaQOpen4Mem2Mem3T1
import Derived.Test.YthgfhimhgeohcaaQQP1QP2
import Derived.ChangeSame
import Derived.Deep.Strs
import Derived.Deep.RegionHeld3
/- Arguments of the laws, opened: a program that came in. -/
namespace Go.Proofs.Ythgfhimhgeohcaa
open Go.RowKit Go.Deep Go.ChangeShapes Go.WideShapes Go.Joins
set_option linter.unusedVariables false
set_option linter.unusedSimpArgs false

theorem Try.cellsClause : Try.prog.cellsOf 128 = 2 := by kernel_rfl
theorem Try.cellsPlace : Try.prog.cellsOf 131 = 3 := by kernel_rfl
theorem Try.cellsProg : Try.prog.cellsOf 25 = 2 := by kernel_rfl
theorem Try.cellsGoals : Try.prog.cellsOf 126 = 1 := by kernel_rfl
theorem Try.cellsClauses : Try.prog.cellsOf 22 = 1 := by kernel_rfl
theorem Try.cellsPlaces : Try.prog.cellsOf 23 = 1 := by kernel_rfl

set_option maxRecDepth 100000 in
theorem open_slC {H : Type} {enc : TypeId × Value → H} {W : World} {v1 : Value} {n' : Nat} {y1 : DataW H × List MemPlace} (t1' : DataW.trod enc Try.prog W 0 (fun _ => true) true n' 36 [v1] = some y1) :
    ∃ t : List C, SlC W v1 t ∧ Fit t ∧ WfC t := by
  have sh : ∃ ao l c, v1 = .slice ao l c ∧ l ≤ c ∧ c ≤ maxLen := by
    rcases open_slice Try.underlying36 t1' with ⟨hcs, _⟩ | ⟨x, l, c, m, n, D, Pl, hcs, _, hl, hm, _⟩
    · simp at hcs; exact ⟨_, _, _, hcs, Nat.le_refl _, Nat.zero_le _⟩
    · simp at hcs; exact ⟨_, _, _, hcs, hl, hm⟩
  obtain ⟨ao, l1, c1, rfl, hl1, hc1⟩ := sh
  obtain ⟨t, rfl, hm, hR, hF, hw⟩ := open_cells (enc := enc) (d := y1.1) (p := y1.2) ⟨n', t1'⟩
  exact ⟨t, ⟨ao, c1, rfl, hl1, hc1, hR⟩, hF, hw⟩

set_option maxRecDepth 100000 in
theorem open_elG {H : Type} {enc : TypeId × Value → H} {W : World} {n' : Nat} {cs : List Value} {y : DataW H × List MemPlace} (hl : cs.length = 4) (h : DataW.trod enc Try.prog W 0 (fun _ => true) true n' 171 cs = some y) :
    ∃ (x : Gl) (v0 v1 v2 v3 : Value), cs = [v0, v1, v2, v3] ∧ GlV W x v0 v1 v2 v3 ∧ FitGl x := by
  obtain ⟨y0, y1, y2, y3, n', _, _, t0, t1, t2, t3⟩ := trod_struct4 Try.underlying171 h
  match cs, hl with
  | [v0, v1, v2, v3], _ =>
    simp only [Try.cellsInt, Try.cellsSl4] at t0 t1 t2 t3
    obtain ⟨z0, e0, _, w0⟩ := DataW.trod_int Try.underlying3 t0
    obtain ⟨a, hA, fA, wA⟩ := open_slC (enc := enc) (v1 := v1) (by simpa using t1)
    obtain ⟨b, hB, fB, wB⟩ := open_slC (enc := enc) (v1 := v2) (by simpa using t2)
    obtain ⟨c, hC, fC, wC⟩ := open_slC (enc := enc) (v1 := v3) (by simpa using t3)
    simp at e0
    subst e0
    exact ⟨⟨z0, a, b, c⟩, _, _, _, _, rfl, ⟨rfl, hA, hB, hC⟩, ⟨fA, wA⟩, ⟨fB, wB⟩, fC, wC⟩

theorem choose_G {n : Nat} {p : Nat → Gl → Prop} (d : Gl) (h : ∀ i, i < n → ∃ x, p i x) : ∃ f : Nat → Gl, ∀ i, i < n → p i (f i) := by
  classical
  refine ⟨fun i => if hi : i < n then Classical.choose (h i hi) else d, fun i hi => ?_⟩
  simp only [dif_pos hi]
  exact Classical.choose_spec (h i hi)
set_option maxRecDepth 100000 in
theorem open_slG {H : Type} {enc : TypeId × Value → H} {W : World} {v1 : Value} {n' : Nat} {y1 : DataW H × List MemPlace} (h : DataW.trod enc Try.prog W 0 (fun _ => true) true n' 126 [v1] = some y1) :
    ∃ s : List Gl, SlG W v1 s ∧ FitG s := by
  rcases open_slice Try.underlying126 h with ⟨hcs, _⟩ | ⟨x, len, cap, m, n, D, Pl, hcs, _, hl, hm, hmm, _, hx⟩
  · simp at hcs
    exact ⟨[], ⟨none, 0, hcs, Nat.le_refl _, Nat.zero_le _, .inl rfl⟩, fun c hc => by simp at hc⟩
  · simp at hcs
    simp only [if_true] at hmm
    have each : ∀ i, i < len → ∃ q : Gl, (∃ v0 v1 v2 v3, W.cell? (x.add (i * 4)) = some v0 ∧ W.cell? (x.add (i * 4 + 1)) = some v1 ∧ W.cell? (x.add (i * 4 + 2)) = some v2 ∧ W.cell? (x.add (i * 4 + 3)) = some v3 ∧ GlV W q v0 v1 v2 v3) ∧ FitGl q := fun i hi => by
      obtain ⟨cs', h1, h2⟩ := hx i (by omega)
      rw [Try.cellsGoal] at h1
      obtain ⟨_, hlen, hcell⟩ := World.cells?_some h1
      obtain ⟨q, v0, v1, v2, v3, rfl, hv, hf⟩ := open_elG hlen h2
      have k0 := hcell 0 (by omega)
      have k1 := hcell 1 (by omega)
      have k2 := hcell 2 (by omega)
      have k3 := hcell 3 (by omega)
      simp at k0 k1 k2 k3
      rw [add_add] at k0 k1 k2 k3
      exact ⟨q, ⟨v0, v1, v2, v3, k0, k1, k2, k3, hv⟩, hf⟩
    obtain ⟨b, off, spot⟩ := x
    by_cases h0 : len = 0
    · subst h0
      exact ⟨[], ⟨_, cap, hcs, hl, hm, .inl rfl⟩, fun c hc => by simp at hc⟩
    · have hsp : spot = none := by
        obtain ⟨q, ⟨v0, v1, v2, v3, hq, _⟩, _⟩ := each 0 (by omega)
        simpa [Addr.add] using World.cell?_spot hq
      subst hsp
      simp only [add_zero_spot] at each
      obtain ⟨d, _⟩ := each 0 (by omega)
      obtain ⟨f, hfn⟩ := choose_G d each
      have hget : ∀ i, (hi : i < ((List.range len).map f).length) → ((List.range len).map f)[i] = f i := fun i hi => by simp
      refine ⟨(List.range len).map f, ⟨some ⟨b, off, none⟩, cap, by rw [hcs]; simp, by simpa using hl, hm, .inr ⟨b, off, rfl, fun i hi => ?_⟩⟩, fun c hc => ?_⟩
      · rw [hget i hi]
        exact (hfn i (by simpa using hi)).1
      · obtain ⟨i, hi, rfl⟩ := List.mem_map.1 hc
        exact (hfn i (by simpa using hi)).2

set_option maxRecDepth 100000 in
theorem open_elK {H : Type} {enc : TypeId × Value → H} {W : World} {n' : Nat} {cs : List Value} {y : DataW H × List MemPlace} (hl : cs.length = 2) (h : DataW.trod enc Try.prog W 0 (fun _ => true) true n' 128 cs = some y) :
    ∃ (x : Cl) (v0 v1 : Value), cs = [v0, v1] ∧ ClV W x v0 v1 ∧ FitCl x := by
  obtain ⟨y0, y1, n', _, _, t0, t1⟩ := trod_struct2 Try.underlying128 h
  match cs, hl with
  | [v0, v1], _ =>
    simp only [Try.cellsSl4, Try.cellsGoals] at t0 t1
    obtain ⟨a, hA, fA, wA⟩ := open_slC (enc := enc) (v1 := v0) (by simpa using t0)
    obtain ⟨g, hG, fG⟩ := open_slG (enc := enc) (v1 := v1) (by simpa using t1)
    exact ⟨⟨a, g⟩, _, _, rfl, ⟨hA, hG⟩, ⟨fA, wA⟩, fG⟩

theorem choose_K {n : Nat} {p : Nat → Cl → Prop} (d : Cl) (h : ∀ i, i < n → ∃ x, p i x) : ∃ f : Nat → Cl, ∀ i, i < n → p i (f i) := by
  classical
  refine ⟨fun i => if hi : i < n then Classical.choose (h i hi) else d, fun i hi => ?_⟩
  simp only [dif_pos hi]
  exact Classical.choose_spec (h i hi)
set_option maxRecDepth 100000 in
theorem open_slK {H : Type} {enc : TypeId × Value → H} {W : World} {v1 : Value} {n' : Nat} {y1 : DataW H × List MemPlace} (h : DataW.trod enc Try.prog W 0 (fun _ => true) true n' 22 [v1] = some y1) :
    ∃ s : List Cl, SlK W v1 s ∧ FitK s := by
  rcases open_slice Try.underlying22 h with ⟨hcs, _⟩ | ⟨x, len, cap, m, n, D, Pl, hcs, _, hl, hm, hmm, _, hx⟩
  · simp at hcs
    exact ⟨[], ⟨none, 0, hcs, Nat.le_refl _, Nat.zero_le _, .inl rfl⟩, fun c hc => by simp at hc⟩
  · simp at hcs
    simp only [if_true] at hmm
    have each : ∀ i, i < len → ∃ q : Cl, (∃ v0 v1, W.cell? (x.add (i * 2)) = some v0 ∧ W.cell? (x.add (i * 2 + 1)) = some v1 ∧ ClV W q v0 v1) ∧ FitCl q := fun i hi => by
      obtain ⟨cs', h1, h2⟩ := hx i (by omega)
      rw [Try.cellsClause] at h1
      obtain ⟨_, hlen, hcell⟩ := World.cells?_some h1
      obtain ⟨q, v0, v1, rfl, hv, hf⟩ := open_elK hlen h2
      have k0 := hcell 0 (by omega)
      have k1 := hcell 1 (by omega)
      simp at k0 k1
      rw [add_add] at k0 k1
      exact ⟨q, ⟨v0, v1, k0, k1, hv⟩, hf⟩
    obtain ⟨b, off, spot⟩ := x
    by_cases h0 : len = 0
    · subst h0
      exact ⟨[], ⟨_, cap, hcs, hl, hm, .inl rfl⟩, fun c hc => by simp at hc⟩
    · have hsp : spot = none := by
        obtain ⟨q, ⟨v0, v1, hq, _⟩, _⟩ := each 0 (by omega)
        simpa [Addr.add] using World.cell?_spot hq
      subst hsp
      simp only [add_zero_spot] at each
      obtain ⟨d, _⟩ := each 0 (by omega)
      obtain ⟨f, hfn⟩ := choose_K d each
      have hget : ∀ i, (hi : i < ((List.range len).map f).length) → ((List.range len).map f)[i] = f i := fun i hi => by simp
      refine ⟨(List.range len).map f, ⟨some ⟨b, off, none⟩, cap, by rw [hcs]; simp, by simpa using hl, hm, .inr ⟨b, off, rfl, fun i hi => ?_⟩⟩, fun c hc => ?_⟩
      · rw [hget i hi]
        exact (hfn i (by simpa using hi)).1
      · obtain ⟨i, hi, rfl⟩ := List.mem_map.1 hc
        exact (hfn i (by simpa using hi)).2

set_option maxRecDepth 100000 in
theorem open_elP {H : Type} {enc : TypeId × Value → H} {W : World} {n' : Nat} {cs : List Value} {y : DataW H × List MemPlace} (hl : cs.length = 3) (h : DataW.trod enc Try.prog W 0 (fun _ => true) true n' 131 cs = some y) :
    ∃ (x : Pc) (v0 v1 v2 : Value), cs = [v0, v1, v2] ∧ PcV W x v0 v1 v2 ∧ FitPc x := by
  obtain ⟨y0, y1, y2, n', _, _, t0, t1, t2⟩ := trod_struct3 Try.underlying131 h
  match cs, hl with
  | [v0, v1, v2], _ =>
    simp only [Try.cellsInt, Try.cellsStr] at t0 t1 t2
    obtain ⟨s0, e0, _, hs⟩ := DataW.trod_string Try.underlying9 t0
    obtain ⟨z1, e1, _, w1⟩ := DataW.trod_int Try.underlying3 t1
    obtain ⟨z2, e2, _, w2⟩ := DataW.trod_int Try.underlying3 t2
    simp at e0 e1 e2
    subst e0 e1 e2
    exact ⟨⟨s0, z1, z2⟩, _, _, _, rfl, ⟨rfl, rfl, rfl⟩, hs, w1, w2⟩

theorem choose_P {n : Nat} {p : Nat → Pc → Prop} (d : Pc) (h : ∀ i, i < n → ∃ x, p i x) : ∃ f : Nat → Pc, ∀ i, i < n → p i (f i) := by
  classical
  refine ⟨fun i => if hi : i < n then Classical.choose (h i hi) else d, fun i hi => ?_⟩
  simp only [dif_pos hi]
  exact Classical.choose_spec (h i hi)
set_option maxRecDepth 100000 in
theorem open_slP {H : Type} {enc : TypeId × Value → H} {W : World} {v1 : Value} {n' : Nat} {y1 : DataW H × List MemPlace} (h : DataW.trod enc Try.prog W 0 (fun _ => true) true n' 23 [v1] = some y1) :
    ∃ s : List Pc, SlP W v1 s ∧ FitP s := by
  rcases open_slice Try.underlying23 h with ⟨hcs, _⟩ | ⟨x, len, cap, m, n, D, Pl, hcs, _, hl, hm, hmm, _, hx⟩
  · simp at hcs
    exact ⟨[], ⟨none, 0, hcs, Nat.le_refl _, Nat.zero_le _, .inl rfl⟩, fun c hc => by simp at hc⟩
  · simp at hcs
    simp only [if_true] at hmm
    have each : ∀ i, i < len → ∃ q : Pc, (∃ v0 v1 v2, W.cell? (x.add (i * 3)) = some v0 ∧ W.cell? (x.add (i * 3 + 1)) = some v1 ∧ W.cell? (x.add (i * 3 + 2)) = some v2 ∧ PcV W q v0 v1 v2) ∧ FitPc q := fun i hi => by
      obtain ⟨cs', h1, h2⟩ := hx i (by omega)
      rw [Try.cellsPlace] at h1
      obtain ⟨_, hlen, hcell⟩ := World.cells?_some h1
      obtain ⟨q, v0, v1, v2, rfl, hv, hf⟩ := open_elP hlen h2
      have k0 := hcell 0 (by omega)
      have k1 := hcell 1 (by omega)
      have k2 := hcell 2 (by omega)
      simp at k0 k1 k2
      rw [add_add] at k0 k1 k2
      exact ⟨q, ⟨v0, v1, v2, k0, k1, k2, hv⟩, hf⟩
    obtain ⟨b, off, spot⟩ := x
    by_cases h0 : len = 0
    · subst h0
      exact ⟨[], ⟨_, cap, hcs, hl, hm, .inl rfl⟩, fun c hc => by simp at hc⟩
    · have hsp : spot = none := by
        obtain ⟨q, ⟨v0, v1, v2, hq, _⟩, _⟩ := each 0 (by omega)
        simpa [Addr.add] using World.cell?_spot hq
      subst hsp
      simp only [add_zero_spot] at each
      obtain ⟨d, _⟩ := each 0 (by omega)
      obtain ⟨f, hfn⟩ := choose_P d each
      have hget : ∀ i, (hi : i < ((List.range len).map f).length) → ((List.range len).map f)[i] = f i := fun i hi => by simp
      refine ⟨(List.range len).map f, ⟨some ⟨b, off, none⟩, cap, by rw [hcs]; simp, by simpa using hl, hm, .inr ⟨b, off, rfl, fun i hi => ?_⟩⟩, fun c hc => ?_⟩
      · rw [hget i hi]
        exact (hfn i (by simpa using hi)).1
      · obtain ⟨i, hi, rfl⟩ := List.mem_map.1 hc
        exact (hfn i (by simpa using hi)).2

set_option maxRecDepth 100000 in
/-- A program that came in. -/
theorem open_prog {H : Type} {enc : TypeId × Value → H} {W : World} {v : Value} {d : DataW H} {p : List MemPlace} (hv : ∃ cs, v = .agg cs ∧ cs.size = Try.prog.cellsOf 25)
    (h : DataW.Trod enc Try.prog W 0 (fun _ => true) true 25 v d p) : ∃ (x : Pg) (v0 v1 : Value), v = .agg #[v0, v1] ∧ PgV W x v0 v1 ∧ FitPg x := by
  obtain ⟨cs, rfl, hs⟩ := hv
  rw [Try.cellsProg] at hs
  obtain ⟨fuel, hf⟩ := h
  obtain ⟨y0, y1, n', _, _, t0, t1⟩ := trod_struct2 Try.underlying25 hf
  obtain ⟨l⟩ := cs
  match l, hs with
  | [v0, v1], _ =>
    simp only [Try.cellsClauses, Try.cellsPlaces, Value.cells] at t0 t1
    obtain ⟨c, hC, fC⟩ := open_slK (enc := enc) (v1 := v0) (by simpa using t0)
    obtain ⟨q, hP, fP⟩ := open_slP (enc := enc) (v1 := v1) (by simpa using t1)
    exact ⟨⟨c, q⟩, v0, v1, rfl, ⟨hC, hP⟩, fC, fP⟩
end Go.Proofs.Ythgfhimhgeohcaa

/- The same program twice: the laws' eqPrg.. -/
namespace Go.Proofs.Ythgfhimhgeohcaa
open Go.RowKit
set_option linter.unusedVariables false
set_option linter.unusedSimpArgs false

theorem eqGl_yes (x : Gl) (v0 v1 v2 v3 u0 u1 u2 u3 : Value) (w : World) (hF : FitGl x) (hs : szGl x ≤ 1048576) (hv : GlV w x v0 v1 v2 v3) (hu : GlV w x u0 u1 u2 u3) :
    Calls Try.prog 146 #[.agg #[v0, v1, v2, v3], .agg #[u0, u1, u2, u3]] w fun e w' => e = .returned (.bool true) ∧ Below w.heap.size w w' := by
  unfold szGl at hs
  obtain ⟨rfl, ⟨xa, xc, rfl, a1, a2, hA⟩, ⟨ya, yc, rfl, b1, b2, hB⟩, ⟨za, zc, rfl, c1, c2, hC⟩⟩ := hv
  obtain ⟨rfl, ⟨xa', xc', rfl, _, _, hA'⟩, ⟨ya', yc', rfl, _, _, hB'⟩, ⟨za', zc', rfl, _, _, hC'⟩⟩ := hu
  exact eqPrgGoal_yes x.k xa ya za xa' ya' za' xc yc zc xc' yc' zc' x.a x.b x.c w ⟨hA, hB, hC, hF.1.1, hF.2.1.1, hF.2.2.1, by omega, by omega, by omega⟩ ⟨hA', hB', hC', hF.1.1, hF.2.1.1, hF.2.2.1, by omega, by omega, by omega⟩
theorem eqSlC_yes (v u : Value) (t : List C) (w : World) (hv : SlC w v t) (hu : SlC w u t) :
    Calls Try.prog 20 #[v, u] w fun e w' => e = .returned (.bool true) ∧ Below w.heap.size w w' := by
  obtain ⟨xa, xc, rfl, a1, a2, hA⟩ := hv
  obtain ⟨ya, yc, rfl, _, _, hB⟩ := hu
  have h := eqTrmCellS_any xa ya xc yc t t w (Nat.le_trans a1 a2) hA hB
  rw [sameS_yes rfl] at h
  exact h
set_option maxRecDepth 100000 in
set_option maxHeartbeats 1000000 in
theorem eqPc_yes (x : Pc) (v0 v1 v2 u0 u1 u2 : Value) (w : World) (hF : FitPc x) (hs : szPc x ≤ 1048576) (hv : PcV w x v0 v1 v2) (hu : PcV w x u0 u1 u2) :
    Calls Try.prog 98 #[.agg #[v0, v1, v2], .agg #[u0, u1, u2]] w fun e w' => e = .returned (.bool true) ∧ Below w.heap.size w w' := by
  obtain ⟨rfl, rfl, rfl⟩ := hv
  obtain ⟨rfl, rfl, rfl⟩ := hu
  have h1 : (x.n != x.n) = false := by simp
  have h2 : (x.d != x.d) = false := by simp
  clear hF hs
  go_enter Try.func98, Try.ntmps98
  go_wp2
  go_ret
  exact ⟨rfl, bstep (cell_below _ _) (cell_below _ _)⟩

set_option maxRecDepth 100000 in
set_option maxHeartbeats 1000000 in
theorem eqGS_some (b off cap b' off' cap' : Nat) (s : List Gl) (w : World) (hm : s.length ≤ maxLen) (hF : FitG s) (ht : totG s ≤ 1048576) (hA : AtG w b off s) (hU : AtG w b' off' s) :
    Calls Try.prog 134 #[.slice (some ⟨b, off, none⟩) s.length cap, .slice (some ⟨b', off', none⟩) s.length cap'] w fun e w' => e = .returned (.bool true) ∧ Below w.heap.size w w' := by
  unfold maxLen at hm
  have hne : ((s.length : Int) != (s.length : Int)) = false := by simp
  go_enter Try.func134, Try.ntmps134
  go_wp2
  go_loopw [5] (fun i wr => ∃ (k : Nat), k ≤ s.length ∧ i = .int .i64 k ∧ Below w.heap.size w wr) (fun i _ => s.length - (intOf i).toNat)
  case atStart => exact ⟨0, Nat.zero_le _, rfl, Below.refl _ _⟩
  case round =>
    obtain ⟨k, hk, rfl, hB⟩ := hrel
    by_cases hlt : k < s.length
    · obtain ⟨v0, v1, v2, v3, c0, c1, c2, c3, hv⟩ := (hA.below hB) k hlt
      obtain ⟨u0, u1, u2, u3, d0, d1, d2, d3, hu⟩ := (hU.below hB) k hlt
      have H := hide (eqGl_yes _ v0 v1 v2 v3 u0 u1 u2 u3 wr.drew (hF _ (List.getElem_mem hlt)) (Nat.le_trans (totG_mem (List.getElem_mem hlt)) ht) (hv.below (Below.refl _ _).drew) (hu.below (Below.refl _ _).drew))
      clear hv hu
      go_wp2
      go_region_with (go_at_call 146; refine (unhide H).mono ?_; rintro e w1 ⟨rfl, hb1⟩)
      all_goals go_wp2
      all_goals go_roundw
      all_goals first | exact ⟨k + 1, by omega, by go_num, bstep hB.drew (by assumption)⟩ | (simp [intOf]; omega)
    · go_wp2
      go_ret
      exact ⟨rfl, hB⟩

set_option maxRecDepth 100000 in
set_option maxHeartbeats 400000 in
theorem eqGS_none (ao bo : Option Addr) (cap cap' : Nat) (w : World) :
    Calls Try.prog 134 #[.slice ao 0 cap, .slice bo 0 cap'] w fun e w' => e = .returned (.bool true) ∧ Below w.heap.size w w' := by
  go_enter Try.func134, Try.ntmps134
  go_wp2
  refine wp_loop_rounds 1 ?_
  rw [rounds_succ]
  go_wp2
  go_ret
  exact ⟨rfl, Below.refl _ _⟩
theorem eqGS_yes (v u : Value) (s : List Gl) (w : World) (hF : FitG s) (ht : totG s ≤ 1048576) (hv : SlG w v s) (hu : SlG w u s) :
    Calls Try.prog 134 #[v, u] w fun e w' => e = .returned (.bool true) ∧ Below w.heap.size w w' := by
  obtain ⟨ao, cap, rfl, h1, h2, hA⟩ := hv
  obtain ⟨bo, cap', rfl, _, _, hU⟩ := hu
  rcases hA with rfl | ⟨b, off, rfl, hA⟩
  · exact eqGS_none ao bo cap cap' w
  · rcases hU with rfl | ⟨b', off', rfl, hU⟩
    · exact eqGS_none _ bo cap cap' w
    · exact eqGS_some b off cap b' off' cap' s w (Nat.le_trans h1 h2) hF ht hA hU

set_option maxRecDepth 100000 in
set_option maxHeartbeats 1000000 in
theorem eqCl_yes (x : Cl) (v0 v1 u0 u1 : Value) (w : World) (hF : FitCl x) (hs : szCl x ≤ 1048576) (hv : ClV w x v0 v1) (hu : ClV w x u0 u1) :
    Calls Try.prog 97 #[.agg #[v0, v1], .agg #[u0, u1]] w fun e w' => e = .returned (.bool true) ∧ Below w.heap.size w w' := by
  unfold szCl at hs
  have H1 := hide (fun (W : World) (hW : Below w.heap.size w W) => eqSlC_yes v0 u0 x.h W (hv.1.below hW) (hu.1.below hW))
  have H2 := hide (fun (W : World) (hW : Below w.heap.size w W) => eqGS_yes v1 u1 x.g W hF.2 (by omega) (hv.2.below hW) (hu.2.below hW))
  obtain ⟨hb0, d0, d1⟩ := two_new w v0 v1 135
  obtain ⟨hb1, e0, e1⟩ := two_new (w.alloc (.cells #[v0, v1] 135)) u0 u1 135
  have hz : (w.alloc (.cells #[v0, v1] 135)).heap.size = w.heap.size + 1 := by simp
  rw [hz] at e0 e1
  have g1 := (hb1.cell (p := ⟨w.heap.size, 1, none⟩) (by rw [hz]; exact Nat.lt_succ_self _)).trans d1
  have hB1 := bstep hb0 hb1
  obtain ⟨xa, xc, rfl, _⟩ := hv.1
  obtain ⟨ya, yc, rfl, _⟩ := hv.2
  obtain ⟨xa', xc', rfl, _⟩ := hu.1
  obtain ⟨ya', yc', rfl, _⟩ := hu.2
  clear hv hu hF hs
  go_enter Try.func97, Try.ntmps97
  go_wp2_with fail
  generalize (w.alloc (.cells #[_, _] 135)).alloc (.cells #[_, _] 135) = w0 at e0 e1 g1 hB1 ⊢
  clear hb0 hb1 d0 d1 hz e0
  have k0 : w.heap.size + 1 < w0.heap.size := World.block_lt_of_cell? w0 ⟨_, _, none⟩ e1
  have k1 : w.heap.size < w0.heap.size := by omega
  refine (unhide H1 _ hB1).mono ?_
  rintro e w1 ⟨rfl, hb2⟩
  have a1 := (hb2.cell (p := ⟨w.heap.size + 1, 1, none⟩) k0).trans e1
  have b1 := (hb2.cell (p := ⟨w.heap.size, 1, none⟩) k1).trans g1
  have hB2 := bstep hB1 hb2
  clear e1 g1 k0 k1 H1 hB1 hb2
  go_wp2_with fail
  refine (unhide H2 _ hB2).mono ?_
  rintro e w2 ⟨rfl, hb3⟩
  have hB3 := bstep hB2 hb3
  go_wp2
  go_ret
  exact ⟨rfl, hB3⟩

set_option maxRecDepth 100000 in
set_option maxHeartbeats 1000000 in
theorem eqKS_some (b off cap b' off' cap' : Nat) (s : List Cl) (w : World) (hm : s.length ≤ maxLen) (hF : FitK s) (ht : totK s ≤ 1048576) (hA : AtK w b off s) (hU : AtK w b' off' s) :
    Calls Try.prog 44 #[.slice (some ⟨b, off, none⟩) s.length cap, .slice (some ⟨b', off', none⟩) s.length cap'] w fun e w' => e = .returned (.bool true) ∧ Below w.heap.size w w' := by
  unfold maxLen at hm
  have hne : ((s.length : Int) != (s.length : Int)) = false := by simp
  go_enter Try.func44, Try.ntmps44
  go_wp2
  go_loopw [5] (fun i wr => ∃ (k : Nat), k ≤ s.length ∧ i = .int .i64 k ∧ Below w.heap.size w wr) (fun i _ => s.length - (intOf i).toNat)
  case atStart => exact ⟨0, Nat.zero_le _, rfl, Below.refl _ _⟩
  case round =>
    obtain ⟨k, hk, rfl, hB⟩ := hrel
    by_cases hlt : k < s.length
    · obtain ⟨v0, v1, c0, c1, hv⟩ := (hA.below hB) k hlt
      obtain ⟨u0, u1, d0, d1, hu⟩ := (hU.below hB) k hlt
      have H := hide (eqCl_yes _ v0 v1 u0 u1 wr.drew (hF _ (List.getElem_mem hlt)) (Nat.le_trans (totK_mem (List.getElem_mem hlt)) ht) (hv.below (Below.refl _ _).drew) (hu.below (Below.refl _ _).drew))
      clear hv hu
      go_wp2
      go_region_with (go_at_call 97; refine (unhide H).mono ?_; rintro e w1 ⟨rfl, hb1⟩)
      all_goals go_wp2
      all_goals go_roundw
      all_goals first | exact ⟨k + 1, by omega, by go_num, bstep hB.drew (by assumption)⟩ | (simp [intOf]; omega)
    · go_wp2
      go_ret
      exact ⟨rfl, hB⟩

set_option maxRecDepth 100000 in
set_option maxHeartbeats 400000 in
theorem eqKS_none (ao bo : Option Addr) (cap cap' : Nat) (w : World) :
    Calls Try.prog 44 #[.slice ao 0 cap, .slice bo 0 cap'] w fun e w' => e = .returned (.bool true) ∧ Below w.heap.size w w' := by
  go_enter Try.func44, Try.ntmps44
  go_wp2
  refine wp_loop_rounds 1 ?_
  rw [rounds_succ]
  go_wp2
  go_ret
  exact ⟨rfl, Below.refl _ _⟩
theorem eqKS_yes (v u : Value) (s : List Cl) (w : World) (hF : FitK s) (ht : totK s ≤ 1048576) (hv : SlK w v s) (hu : SlK w u s) :
    Calls Try.prog 44 #[v, u] w fun e w' => e = .returned (.bool true) ∧ Below w.heap.size w w' := by
  obtain ⟨ao, cap, rfl, h1, h2, hA⟩ := hv
  obtain ⟨bo, cap', rfl, _, _, hU⟩ := hu
  rcases hA with rfl | ⟨b, off, rfl, hA⟩
  · exact eqKS_none ao bo cap cap' w
  · rcases hU with rfl | ⟨b', off', rfl, hU⟩
    · exact eqKS_none _ bo cap cap' w
    · exact eqKS_some b off cap b' off' cap' s w (Nat.le_trans h1 h2) hF ht hA hU

set_option maxRecDepth 100000 in
set_option maxHeartbeats 1000000 in
theorem eqPS_some (b off cap b' off' cap' : Nat) (s : List Pc) (w : World) (hm : s.length ≤ maxLen) (hF : FitP s) (ht : totP s ≤ 1048576) (hA : AtP w b off s) (hU : AtP w b' off' s) :
    Calls Try.prog 45 #[.slice (some ⟨b, off, none⟩) s.length cap, .slice (some ⟨b', off', none⟩) s.length cap'] w fun e w' => e = .returned (.bool true) ∧ Below w.heap.size w w' := by
  unfold maxLen at hm
  have hne : ((s.length : Int) != (s.length : Int)) = false := by simp
  go_enter Try.func45, Try.ntmps45
  go_wp2
  go_loopw [5] (fun i wr => ∃ (k : Nat), k ≤ s.length ∧ i = .int .i64 k ∧ Below w.heap.size w wr) (fun i _ => s.length - (intOf i).toNat)
  case atStart => exact ⟨0, Nat.zero_le _, rfl, Below.refl _ _⟩
  case round =>
    obtain ⟨k, hk, rfl, hB⟩ := hrel
    by_cases hlt : k < s.length
    · obtain ⟨v0, v1, v2, c0, c1, c2, hv⟩ := (hA.below hB) k hlt
      obtain ⟨u0, u1, u2, d0, d1, d2, hu⟩ := (hU.below hB) k hlt
      have H := hide (eqPc_yes _ v0 v1 v2 u0 u1 u2 wr.drew (hF _ (List.getElem_mem hlt)) (Nat.le_trans (totP_mem (List.getElem_mem hlt)) ht) (hv.below (Below.refl _ _).drew) (hu.below (Below.refl _ _).drew))
      clear hv hu
      go_wp2
      go_region_with (go_at_call 98; refine (unhide H).mono ?_; rintro e w1 ⟨rfl, hb1⟩)
      all_goals go_wp2
      all_goals go_roundw
      all_goals first | exact ⟨k + 1, by omega, by go_num, bstep hB.drew (by assumption)⟩ | (simp [intOf]; omega)
    · go_wp2
      go_ret
      exact ⟨rfl, hB⟩

set_option maxRecDepth 100000 in
set_option maxHeartbeats 400000 in
theorem eqPS_none (ao bo : Option Addr) (cap cap' : Nat) (w : World) :
    Calls Try.prog 45 #[.slice ao 0 cap, .slice bo 0 cap'] w fun e w' => e = .returned (.bool true) ∧ Below w.heap.size w w' := by
  go_enter Try.func45, Try.ntmps45
  go_wp2
  refine wp_loop_rounds 1 ?_
  rw [rounds_succ]
  go_wp2
  go_ret
  exact ⟨rfl, Below.refl _ _⟩
theorem eqPS_yes (v u : Value) (s : List Pc) (w : World) (hF : FitP s) (ht : totP s ≤ 1048576) (hv : SlP w v s) (hu : SlP w u s) :
    Calls Try.prog 45 #[v, u] w fun e w' => e = .returned (.bool true) ∧ Below w.heap.size w w' := by
  obtain ⟨ao, cap, rfl, h1, h2, hA⟩ := hv
  obtain ⟨bo, cap', rfl, _, _, hU⟩ := hu
  rcases hA with rfl | ⟨b, off, rfl, hA⟩
  · exact eqPS_none ao bo cap cap' w
  · rcases hU with rfl | ⟨b', off', rfl, hU⟩
    · exact eqPS_none _ bo cap cap' w
    · exact eqPS_some b off cap b' off' cap' s w (Nat.le_trans h1 h2) hF ht hA hU

set_option maxRecDepth 100000 in
set_option maxHeartbeats 1000000 in
theorem eqPg_yes (x : Pg) (v0 v1 u0 u1 : Value) (w : World) (hF : FitPg x) (hs : szPg x ≤ 1048576) (hv : PgV w x v0 v1) (hu : PgV w x u0 u1) :
    Calls Try.prog 12 #[.agg #[v0, v1], .agg #[u0, u1]] w fun e w' => e = .returned (.bool true) ∧ Below w.heap.size w w' := by
  unfold szPg at hs
  have H1 := hide (fun (W : World) (hW : Below w.heap.size w W) => eqKS_yes v0 u0 x.cs W hF.1 (by omega) (hv.1.below hW) (hu.1.below hW))
  have H2 := hide (fun (W : World) (hW : Below w.heap.size w W) => eqPS_yes v1 u1 x.ps W hF.2 (by omega) (hv.2.below hW) (hu.2.below hW))
  obtain ⟨hb0, d0, d1⟩ := two_new w v0 v1 30
  obtain ⟨hb1, e0, e1⟩ := two_new (w.alloc (.cells #[v0, v1] 30)) u0 u1 30
  have hz : (w.alloc (.cells #[v0, v1] 30)).heap.size = w.heap.size + 1 := by simp
  rw [hz] at e0 e1
  have g1 := (hb1.cell (p := ⟨w.heap.size, 1, none⟩) (by rw [hz]; exact Nat.lt_succ_self _)).trans d1
  have hB1 := bstep hb0 hb1
  obtain ⟨xa, xc, rfl, _⟩ := hv.1
  obtain ⟨ya, yc, rfl, _⟩ := hv.2
  obtain ⟨xa', xc', rfl, _⟩ := hu.1
  obtain ⟨ya', yc', rfl, _⟩ := hu.2
  clear hv hu hF hs
  go_enter Try.func12, Try.ntmps12
  go_wp2_with fail
  generalize (w.alloc (.cells #[_, _] 30)).alloc (.cells #[_, _] 30) = w0 at e0 e1 g1 hB1 ⊢
  clear hb0 hb1 d0 d1 hz e0
  have k0 : w.heap.size + 1 < w0.heap.size := World.block_lt_of_cell? w0 ⟨_, _, none⟩ e1
  have k1 : w.heap.size < w0.heap.size := by omega
  refine (unhide H1 _ hB1).mono ?_
  rintro e w1 ⟨rfl, hb2⟩
  have a1 := (hb2.cell (p := ⟨w.heap.size + 1, 1, none⟩) k0).trans e1
  have b1 := (hb2.cell (p := ⟨w.heap.size, 1, none⟩) k1).trans g1
  have hB2 := bstep hB1 hb2
  clear e1 g1 k0 k1 H1 hB1 hb2
  go_wp2_with fail
  refine (unhide H2 _ hB2).mono ?_
  rintro e w2 ⟨rfl, hb3⟩
  have hB3 := bstep hB2 hb3
  go_wp2
  go_ret
  exact ⟨rfl, hB3⟩
end Go.Proofs.Ythgfhimhgeohcaa
