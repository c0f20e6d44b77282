/- Arguments of the laws, opened: a program that came in. -/
import Derived.Test.YtpfoaleehdiahaaQOpen4
import Derived.Test.YtpfoaleehdiahaaQQP2
import Derived.ChangeSame
import Derived.Deep.Strs
namespace Go.Proofs.Ytpfoaleehdiahaa
open Go.RowKit Go.Deep Go.ChangeShapes Go.WideShapes Go.Joins
set_option linter.unusedVariables false
set_option linter.unusedSimpArgs false

theorem Try.cellsClause : Try.prog.cellsOf 134 = 2 := by kernel_rfl
theorem Try.cellsPlace : Try.prog.cellsOf 137 = 3 := by kernel_rfl
theorem Try.cellsProg : Try.prog.cellsOf 25 = 2 := by kernel_rfl
theorem Try.cellsGoals : Try.prog.cellsOf 132 = 1 := by kernel_rfl
theorem Try.cellsClauses : Try.prog.cellsOf 22 = 1 := by kernel_rfl
theorem Try.cellsPlaces : Try.prog.cellsOf 23 = 1 := by kernel_rfl

set_option maxRecDepth 100000 in
theorem open_slC {H : Type} {enc : TypeId × Value → H} {W : World} {v1 : Value} {n' : Nat} {y1 : DataW H × List MemPlace} (t1' : DataW.trod enc Try.prog W 0 (fun _ => true) true n' 26 [v1] = some y1) :
    ∃ t : List C, SlC W v1 t ∧ Fit t ∧ WfC t := by
  have sh : ∃ ao l c, v1 = .slice ao l c ∧ l ≤ c ∧ c ≤ maxLen := by
    rcases open_slice Try.underlying26 t1' with ⟨hcs, _⟩ | ⟨x, l, c, m, n, D, Pl, hcs, _, hl, hm, _⟩
    · simp at hcs; exact ⟨_, _, _, hcs, Nat.le_refl _, Nat.zero_le _⟩
    · simp at hcs; exact ⟨_, _, _, hcs, hl, hm⟩
  obtain ⟨ao, l1, c1, rfl, hl1, hc1⟩ := sh
  obtain ⟨t, rfl, hm, hR, hF, hw⟩ := open_cells (enc := enc) (d := y1.1) (p := y1.2) ⟨n', t1'⟩
  exact ⟨t, ⟨ao, c1, rfl, hl1, hc1, hR⟩, hF, hw⟩

set_option maxRecDepth 100000 in
theorem open_elG {H : Type} {enc : TypeId × Value → H} {W : World} {n' : Nat} {cs : List Value} {y : DataW H × List MemPlace} (hl : cs.length = 4) (h : DataW.trod enc Try.prog W 0 (fun _ => true) true n' 178 cs = some y) :
    ∃ (x : Gl) (v0 v1 v2 v3 : Value), cs = [v0, v1, v2, v3] ∧ GlV W x v0 v1 v2 v3 ∧ FitGl x := by
  obtain ⟨y0, y1, y2, y3, n', _, _, t0, t1, t2, t3⟩ := trod_struct4 Try.underlying178 h
  match cs, hl with
  | [v0, v1, v2, v3], _ =>
    simp only [Try.cellsInt, Try.cellsSl4] at t0 t1 t2 t3
    obtain ⟨z0, e0, _, w0⟩ := DataW.trod_int Try.underlying3 t0
    obtain ⟨a, hA, fA, wA⟩ := open_slC (enc := enc) (v1 := v1) (by simpa using t1)
    obtain ⟨b, hB, fB, wB⟩ := open_slC (enc := enc) (v1 := v2) (by simpa using t2)
    obtain ⟨c, hC, fC, wC⟩ := open_slC (enc := enc) (v1 := v3) (by simpa using t3)
    simp at e0
    subst e0
    exact ⟨⟨z0, a, b, c⟩, _, _, _, _, rfl, ⟨rfl, hA, hB, hC⟩, ⟨fA, wA⟩, ⟨fB, wB⟩, fC, wC⟩

theorem choose_G {n : Nat} {p : Nat → Gl → Prop} (d : Gl) (h : ∀ i, i < n → ∃ x, p i x) : ∃ f : Nat → Gl, ∀ i, i < n → p i (f i) := by
  classical
  refine ⟨fun i => if hi : i < n then Classical.choose (h i hi) else d, fun i hi => ?_⟩
  simp only [dif_pos hi]
  exact Classical.choose_spec (h i hi)
set_option maxRecDepth 100000 in
theorem open_slG {H : Type} {enc : TypeId × Value → H} {W : World} {v1 : Value} {n' : Nat} {y1 : DataW H × List MemPlace} (h : DataW.trod enc Try.prog W 0 (fun _ => true) true n' 132 [v1] = some y1) :
    ∃ s : List Gl, SlG W v1 s ∧ FitG s := by
  rcases open_slice Try.underlying132 h with ⟨hcs, _⟩ | ⟨x, len, cap, m, n, D, Pl, hcs, _, hl, hm, hmm, _, hx⟩
  · simp at hcs
    exact ⟨[], ⟨none, 0, hcs, Nat.le_refl _, Nat.zero_le _, .inl rfl⟩, fun c hc => by simp at hc⟩
  · simp at hcs
    simp only [if_true] at hmm
    have each : ∀ i, i < len → ∃ q : Gl, (∃ v0 v1 v2 v3, W.cell? (x.add (i * 4)) = some v0 ∧ W.cell? (x.add (i * 4 + 1)) = some v1 ∧ W.cell? (x.add (i * 4 + 2)) = some v2 ∧ W.cell? (x.add (i * 4 + 3)) = some v3 ∧ GlV W q v0 v1 v2 v3) ∧ FitGl q := fun i hi => by
      obtain ⟨cs', h1, h2⟩ := hx i (by omega)
      rw [Try.cellsGoal] at h1
      obtain ⟨_, hlen, hcell⟩ := World.cells?_some h1
      obtain ⟨q, v0, v1, v2, v3, rfl, hv, hf⟩ := open_elG hlen h2
      have k0 := hcell 0 (by omega)
      have k1 := hcell 1 (by omega)
      have k2 := hcell 2 (by omega)
      have k3 := hcell 3 (by omega)
      simp at k0 k1 k2 k3
      rw [add_add] at k0 k1 k2 k3
      exact ⟨q, ⟨v0, v1, v2, v3, k0, k1, k2, k3, hv⟩, hf⟩
    obtain ⟨b, off, spot⟩ := x
    by_cases h0 : len = 0
    · subst h0
      exact ⟨[], ⟨_, cap, hcs, hl, hm, .inl rfl⟩, fun c hc => by simp at hc⟩
    · have hsp : spot = none := by
        obtain ⟨q, ⟨v0, v1, v2, v3, hq, _⟩, _⟩ := each 0 (by omega)
        simpa [Addr.add] using World.cell?_spot hq
      subst hsp
      simp only [add_zero_spot] at each
      obtain ⟨d, _⟩ := each 0 (by omega)
      obtain ⟨f, hfn⟩ := choose_G d each
      have hget : ∀ i, (hi : i < ((List.range len).map f).length) → ((List.range len).map f)[i] = f i := fun i hi => by simp
      refine ⟨(List.range len).map f, ⟨some ⟨b, off, none⟩, cap, by rw [hcs]; simp, by simpa using hl, hm, .inr ⟨b, off, rfl, fun i hi => ?_⟩⟩, fun c hc => ?_⟩
      · rw [hget i hi]
        exact (hfn i (by simpa using hi)).1
      · obtain ⟨i, hi, rfl⟩ := List.mem_map.1 hc
        exact (hfn i (by simpa using hi)).2

set_option maxRecDepth 100000 in
theorem open_elK {H : Type} {enc : TypeId × Value → H} {W : World} {n' : Nat} {cs : List Value} {y : DataW H × List MemPlace} (hl : cs.length = 2) (h : DataW.trod enc Try.prog W 0 (fun _ => true) true n' 134 cs = some y) :
    ∃ (x : Cl) (v0 v1 : Value), cs = [v0, v1] ∧ ClV W x v0 v1 ∧ FitCl x := by
  obtain ⟨y0, y1, n', _, _, t0, t1⟩ := trod_struct2 Try.underlying134 h
  match cs, hl with
  | [v0, v1], _ =>
    simp only [Try.cellsSl4, Try.cellsGoals] at t0 t1
    obtain ⟨a, hA, fA, wA⟩ := open_slC (enc := enc) (v1 := v0) (by simpa using t0)
    obtain ⟨g, hG, fG⟩ := open_slG (enc := enc) (v1 := v1) (by simpa using t1)
    exact ⟨⟨a, g⟩, _, _, rfl, ⟨hA, hG⟩, ⟨fA, wA⟩, fG⟩

theorem choose_K {n : Nat} {p : Nat → Cl → Prop} (d : Cl) (h : ∀ i, i < n → ∃ x, p i x) : ∃ f : Nat → Cl, ∀ i, i < n → p i (f i) := by
  classical
  refine ⟨fun i => if hi : i < n then Classical.choose (h i hi) else d, fun i hi => ?_⟩
  simp only [dif_pos hi]
  exact Classical.choose_spec (h i hi)
set_option maxRecDepth 100000 in
theorem open_slK {H : Type} {enc : TypeId × Value → H} {W : World} {v1 : Value} {n' : Nat} {y1 : DataW H × List MemPlace} (h : DataW.trod enc Try.prog W 0 (fun _ => true) true n' 22 [v1] = some y1) :
    ∃ s : List Cl, SlK W v1 s ∧ FitK s := by
  rcases open_slice Try.underlying22 h with ⟨hcs, _⟩ | ⟨x, len, cap, m, n, D, Pl, hcs, _, hl, hm, hmm, _, hx⟩
  · simp at hcs
    exact ⟨[], ⟨none, 0, hcs, Nat.le_refl _, Nat.zero_le _, .inl rfl⟩, fun c hc => by simp at hc⟩
  · simp at hcs
    simp only [if_true] at hmm
    have each : ∀ i, i < len → ∃ q : Cl, (∃ v0 v1, W.cell? (x.add (i * 2)) = some v0 ∧ W.cell? (x.add (i * 2 + 1)) = some v1 ∧ ClV W q v0 v1) ∧ FitCl q := fun i hi => by
      obtain ⟨cs', h1, h2⟩ := hx i (by omega)
      rw [Try.cellsClause] at h1
      obtain ⟨_, hlen, hcell⟩ := World.cells?_some h1
      obtain ⟨q, v0, v1, rfl, hv, hf⟩ := open_elK hlen h2
      have k0 := hcell 0 (by omega)
      have k1 := hcell 1 (by omega)
      simp at k0 k1
      rw [add_add] at k0 k1
      exact ⟨q, ⟨v0, v1, k0, k1, hv⟩, hf⟩
    obtain ⟨b, off, spot⟩ := x
    by_cases h0 : len = 0
    · subst h0
      exact ⟨[], ⟨_, cap, hcs, hl, hm, .inl rfl⟩, fun c hc => by simp at hc⟩
    · have hsp : spot = none := by
        obtain ⟨q, ⟨v0, v1, hq, _⟩, _⟩ := each 0 (by omega)
        simpa [Addr.add] using World.cell?_spot hq
      subst hsp
      simp only [add_zero_spot] at each
      obtain ⟨d, _⟩ := each 0 (by omega)
      obtain ⟨f, hfn⟩ := choose_K d each
      have hget : ∀ i, (hi : i < ((List.range len).map f).length) → ((List.range len).map f)[i] = f i := fun i hi => by simp
      refine ⟨(List.range len).map f, ⟨some ⟨b, off, none⟩, cap, by rw [hcs]; simp, by simpa using hl, hm, .inr ⟨b, off, rfl, fun i hi => ?_⟩⟩, fun c hc => ?_⟩
      · rw [hget i hi]
        exact (hfn i (by simpa using hi)).1
      · obtain ⟨i, hi, rfl⟩ := List.mem_map.1 hc
        exact (hfn i (by simpa using hi)).2

set_option maxRecDepth 100000 in
theorem open_elP {H : Type} {enc : TypeId × Value → H} {W : World} {n' : Nat} {cs : List Value} {y : DataW H × List MemPlace} (hl : cs.length = 3) (h : DataW.trod enc Try.prog W 0 (fun _ => true) true n' 137 cs = some y) :
    ∃ (x : Pc) (v0 v1 v2 : Value), cs = [v0, v1, v2] ∧ PcV W x v0 v1 v2 ∧ FitPc x := by
  obtain ⟨y0, y1, y2, n', _, _, t0, t1, t2⟩ := trod_struct3 Try.underlying137 h
  match cs, hl with
  | [v0, v1, v2], _ =>
    simp only [Try.cellsInt, Try.cellsStr] at t0 t1 t2
    obtain ⟨s0, e0, _, hs⟩ := DataW.trod_string Try.underlying9 t0
    obtain ⟨z1, e1, _, w1⟩ := DataW.trod_int Try.underlying3 t1
    obtain ⟨z2, e2, _, w2⟩ := DataW.trod_int Try.underlying3 t2
    simp at e0 e1 e2
    subst e0 e1 e2
    exact ⟨⟨s0, z1, z2⟩, _, _, _, rfl, ⟨rfl, rfl, rfl⟩, hs, w1, w2⟩

theorem choose_P {n : Nat} {p : Nat → Pc → Prop} (d : Pc) (h : ∀ i, i < n → ∃ x, p i x) : ∃ f : Nat → Pc, ∀ i, i < n → p i (f i) := by
  classical
  refine ⟨fun i => if hi : i < n then Classical.choose (h i hi) else d, fun i hi => ?_⟩
  simp only [dif_pos hi]
  exact Classical.choose_spec (h i hi)
set_option maxRecDepth 100000 in
theorem open_slP {H : Type} {enc : TypeId × Value → H} {W : World} {v1 : Value} {n' : Nat} {y1 : DataW H × List MemPlace} (h : DataW.trod enc Try.prog W 0 (fun _ => true) true n' 23 [v1] = some y1) :
    ∃ s : List Pc, SlP W v1 s ∧ FitP s := by
  rcases open_slice Try.underlying23 h with ⟨hcs, _⟩ | ⟨x, len, cap, m, n, D, Pl, hcs, _, hl, hm, hmm, _, hx⟩
  · simp at hcs
    exact ⟨[], ⟨none, 0, hcs, Nat.le_refl _, Nat.zero_le _, .inl rfl⟩, fun c hc => by simp at hc⟩
  · simp at hcs
    simp only [if_true] at hmm
    have each : ∀ i, i < len → ∃ q : Pc, (∃ v0 v1 v2, W.cell? (x.add (i * 3)) = some v0 ∧ W.cell? (x.add (i * 3 + 1)) = some v1 ∧ W.cell? (x.add (i * 3 + 2)) = some v2 ∧ PcV W q v0 v1 v2) ∧ FitPc q := fun i hi => by
      obtain ⟨cs', h1, h2⟩ := hx i (by omega)
      rw [Try.cellsPlace] at h1
      obtain ⟨_, hlen, hcell⟩ := World.cells?_some h1
      obtain ⟨q, v0, v1, v2, rfl, hv, hf⟩ := open_elP hlen h2
      have k0 := hcell 0 (by omega)
      have k1 := hcell 1 (by omega)
      have k2 := hcell 2 (by omega)
      simp at k0 k1 k2
      rw [add_add] at k0 k1 k2
      exact ⟨q, ⟨v0, v1, v2, k0, k1, k2, hv⟩, hf⟩
    obtain ⟨b, off, spot⟩ := x
    by_cases h0 : len = 0
    · subst h0
      exact ⟨[], ⟨_, cap, hcs, hl, hm, .inl rfl⟩, fun c hc => by simp at hc⟩
    · have hsp : spot = none := by
        obtain ⟨q, ⟨v0, v1, v2, hq, _⟩, _⟩ := each 0 (by omega)
        simpa [Addr.add] using World.cell?_spot hq
      subst hsp
      simp only [add_zero_spot] at each
      obtain ⟨d, _⟩ := each 0 (by omega)
      obtain ⟨f, hfn⟩ := choose_P d each
      have hget : ∀ i, (hi : i < ((List.range len).map f).length) → ((List.range len).map f)[i] = f i := fun i hi => by simp
      refine ⟨(List.range len).map f, ⟨some ⟨b, off, none⟩, cap, by rw [hcs]; simp, by simpa using hl, hm, .inr ⟨b, off, rfl, fun i hi => ?_⟩⟩, fun c hc => ?_⟩
      · rw [hget i hi]
        exact (hfn i (by simpa using hi)).1
      · obtain ⟨i, hi, rfl⟩ := List.mem_map.1 hc
        exact (hfn i (by simpa using hi)).2

set_option maxRecDepth 100000 in
/-- A program that came in. -/
theorem open_prog {H : Type} {enc : TypeId × Value → H} {W : World} {v : Value} {d : DataW H} {p : List MemPlace} (hv : ∃ cs, v = .agg cs ∧ cs.size = Try.prog.cellsOf 25)
    (h : DataW.Trod enc Try.prog W 0 (fun _ => true) true 25 v d p) : ∃ (x : Pg) (v0 v1 : Value), v = .agg #[v0, v1] ∧ PgV W x v0 v1 ∧ FitPg x := by
  obtain ⟨cs, rfl, hs⟩ := hv
  rw [Try.cellsProg] at hs
  obtain ⟨fuel, hf⟩ := h
  obtain ⟨y0, y1, n', _, _, t0, t1⟩ := trod_struct2 Try.underlying25 hf
  obtain ⟨l⟩ := cs
  match l, hs with
  | [v0, v1], _ =>
    simp only [Try.cellsClauses, Try.cellsPlaces, Value.cells] at t0 t1
    obtain ⟨c, hC, fC⟩ := open_slK (enc := enc) (v1 := v0) (by simpa using t0)
    obtain ⟨q, hP, fP⟩ := open_slP (enc := enc) (v1 := v1) (by simpa using t1)
    exact ⟨⟨c, q⟩, v0, v1, rfl, ⟨hC, hP⟩, fC, fP⟩
end Go.Proofs.Ytpfoaleehdiahaa
