import Derived.Test.YtcimlcmhodpalaaQPlainMemOpen
import Derived.Test.YtcimlcmhodpalaaQSB1
import Derived.Test.YtcimlcmhodpalaaQW1
/- Arguments of the laws, opened: bindings that came in (a slice of structs, each a number and a slice of places). -/
namespace Go.Proofs.Ytcimlcmhodpalaa
open Go.RowKit Go.Deep Go.ChangeShapes Go.WideShapes
set_option linter.unusedVariables false
set_option linter.unusedSimpArgs false

theorem Try.cellsBind : Try.prog.cellsOf 106 = 2 := by kernel_rfl
theorem Try.cellsSl : Try.prog.cellsOf 55 = 1 := by kernel_rfl

theorem choose_B {n : Nat} {p : Nat → B → Prop} (h : ∀ i, i < n → ∃ x, p i x) : ∃ f : Nat → B, ∀ i, i < n → p i (f i) := by
  classical
  refine ⟨fun i => if hi : i < n then Classical.choose (h i hi) else ⟨0, []⟩, fun i hi => ?_⟩
  simp only [dif_pos hi]
  exact Classical.choose_spec (h i hi)

set_option maxRecDepth 100000 in
/-- A slice of bindings that came in leads to bindings. -/
theorem open_binds {H : Type} {enc : TypeId × Value → H} {W : World} {a : Option Addr} {len cap : Nat} {d : DataW H} {p : List MemPlace}
    (h : DataW.Trod enc Try.prog W 0 (fun _ => true) true 60 (.slice a len cap) d p) :
    ∃ s : List B, s.length = len ∧ len ≤ maxLen ∧ RowB W a s ∧ FitB s := by
  obtain ⟨fuel, hf⟩ := h
  rcases open_slice Try.underlying60 hf with ⟨hcs, _⟩ | ⟨x, l, c, m, n, D, Pl, hcs, _, hl, hm, hmm, _, hx⟩
  · simp [Value.cells] at hcs
    obtain ⟨rfl, rfl, rfl⟩ := hcs
    exact ⟨[], rfl, by simp [maxLen], .inl rfl, fun c hc => by simp at hc⟩
  · simp [Value.cells] at hcs
    obtain ⟨rfl, rfl, rfl⟩ := hcs
    simp only [if_true] at hmm
    have each : ∀ i, i < len → ∃ q : B, W.cell? (x.add (i * 2)) = some (.int .i64 q.v) ∧ (∃ ao cp, W.cell? (x.add (i * 2 + 1)) = some (.slice ao q.t.length cp) ∧ q.t.length ≤ cp ∧ cp ≤ maxLen ∧ Row W ao q.t) ∧
        Fit q.t ∧ WfC q.t ∧ (Lit.int .i64 q.v).wf = true := fun i hi => by
      obtain ⟨cs', h1, h2⟩ := hx i (by omega)
      rw [Try.cellsBind] at h1
      obtain ⟨_, hlen, hcell⟩ := World.cells?_some h1
      obtain ⟨y0, y1, n', _, _, t0, t1⟩ := trod_struct2 Try.underlying106 h2
      match cs', hlen with
      | [v0, v1], _ =>
        have k0 := hcell 0 (by omega)
        have k1 := hcell 1 (by omega)
        simp only [Try.cellsInt, Try.cellsSl] at t0 t1
        obtain ⟨z0, e0, _, w0⟩ := DataW.trod_int Try.underlying3 t0
        have t1' : DataW.trod enc Try.prog W 0 (fun _ => true) true n' 55 [v1] = some y1 := by simpa using t1
        have sh : ∃ ao l c, v1 = .slice ao l c ∧ l ≤ c ∧ c ≤ maxLen := by
          rcases open_slice Try.underlying55 t1' with ⟨hcs, _⟩ | ⟨x, l, c, m, n, D, Pl, hcs, _, hl, hm, _⟩
          · simp at hcs; exact ⟨_, _, _, hcs, Nat.le_refl _, Nat.zero_le _⟩
          · simp at hcs; exact ⟨_, _, _, hcs, hl, hm⟩
        obtain ⟨ao, l1, c1, rfl, hl1, hc1⟩ := sh
        obtain ⟨t, rfl, _, hR, hF, hw⟩ := open_cells (enc := enc) (d := y1.1) (p := y1.2) ⟨n', t1'⟩
        simp at e0 k0 k1
        subst e0
        rw [add_add] at k0 k1
        exact ⟨⟨z0, t⟩, k0, ⟨ao, c1, k1, hl1, hc1, hR⟩, hF, hw, w0⟩
    obtain ⟨b, off, spot⟩ := x
    by_cases h0 : len = 0
    · subst h0
      exact ⟨[], rfl, by omega, .inl rfl, fun c hc => by simp at hc⟩
    · have hsp : spot = none := by
        obtain ⟨q, hq, _⟩ := each 0 (by omega)
        simpa [Addr.add] using World.cell?_spot hq
      subst hsp
      simp only [add_zero_spot] at each
      obtain ⟨f, hfn⟩ := choose_B each
      have hget : ∀ i, (hi : i < ((List.range len).map f).length) → ((List.range len).map f)[i] = f i := fun i hi => by simp
      refine ⟨(List.range len).map f, by simp, by omega, .inr ⟨b, off, rfl, fun i hi => ?_⟩, fun c hc => ?_⟩
      · rw [hget i hi]
        have := hfn i (by simpa using hi)
        exact ⟨this.1, this.2.1⟩
      · obtain ⟨i, hi, rfl⟩ := List.mem_map.1 hc
        exact (hfn i (by simpa using hi)).2.2
end Go.Proofs.Ytcimlcmhodpalaa

/- The walk of the program's TrmOk. -/
namespace Go.Proofs.Ytcimlcmhodpalaa
open Go.RowKit
set_option linter.unusedVariables false
set_option linter.unusedSimpArgs false

theorem goes_step {t : List C} {k : Nat} (h : k < t.length) (x : Int) (hx : x ≠ 0) (ho : okC t[k] = true) : goes x (t.drop k) = goes (x + (ari t[k] - 1)) (t.drop (k + 1)) := by
  rw [List.drop_eq_getElem_cons h]; simp [goes, hx, ho]
theorem goes_zero {t : List C} {k : Nat} (h : k < t.length) : goes 0 (t.drop k) = false := by
  rw [List.drop_eq_getElem_cons h]; simp [goes]
theorem goes_bad {t : List C} {k : Nat} (h : k < t.length) (x : Int) (ho : okC t[k] = false) : goes x (t.drop k) = false := by
  rw [List.drop_eq_getElem_cons h]; simp [goes, ho]
theorem goes_end {t : List C} {k : Nat} (h : ¬ k < t.length) (x : Int) : goes x (t.drop k) = decide (x = 0) := by
  rw [List.drop_eq_nil_iff.2 (by omega)]; rfl

theorem trm_of {t : List C} (h : t.length ≤ 40) {b : Bool} (hg : goes 1 t = b) : trm t = b := by simp [trm, h, hg]
theorem trm_long {t : List C} (h : ¬ t.length ≤ 40) : trm t = false := by simp [trm, h]

set_option maxHeartbeats 1000000 in
theorem TrmOk_some (b off cap : Nat) (t : List C) (w : World) (hm : t.length ≤ maxLen) (hA : At w b off t) (hF : Fit t) :
    Calls Try.prog 32 #[.slice (some ⟨b, off, none⟩) t.length cap] w fun e w' => e = .returned (.bool (trm t)) ∧ Below w.heap.size w w' := by
  unfold maxLen at hm
  by_cases h40 : t.length ≤ 40
  · go_enter Try.func32, Try.ntmps32
    go_wp2
    go_loopw [3, 11] (fun m i wr => ∃ (k : Nat) (x : Int), k ≤ t.length ∧ i = .int .i64 k ∧ m = .int .i64 x ∧ 0 ≤ x ∧ x ≤ 1 + 3 * k ∧ goes 1 t = goes x (t.drop k) ∧ Below w.heap.size w wr) (fun _ i _ => t.length - (intOf i).toNat)
    case atStart => exact ⟨0, 1, Nat.zero_le _, rfl, rfl, by omega, by omega, rfl, Below.refl _ _⟩
    case round =>
      obtain ⟨k, x, hk, rfl, rfl, hx0, hx1, hg, hB⟩ := hrel
      have H : Hid (goes 1 t = goes x (t.drop k)) := hg
      clear hg
      by_cases hlt : k < t.length
      · obtain ⟨c0, c1, c2⟩ := (hA.below hB) k hlt
        have hs := hF.get k hlt
        obtain ⟨c, hc⟩ : ∃ c, c = t[k] := ⟨_, rfl⟩
        rw [← hc] at c0 c1 c2 hs
        have HC : Hid (c = t[k]) := hc
        clear hc
        by_cases hx : x = 0
        · have hxb : (x == 0) = true := by simpa using hx
          go_wp2
          go_ret
          refine ⟨ret_bool ?_, hB.alloc hB.size _⟩
          rw [trm_of h40 H.out, hx, goes_zero hlt]
        · have hxb : (x == 0) = false := by simpa using hx
          cases ho : okC c with
          | false =>
            go_wp2_with fail
            refine (cellOk_any c _ hs).mono ?_
            rintro e w1 ⟨rfl, hb1⟩
            go_wp2
            go_ret
            refine ⟨ret_bool ?_, (hB.alloc hB.size _).trans (hb1.mono (by have := hB.size; simp; omega))⟩
            rw [trm_of h40 H.out, goes_bad hlt x (by rw [← HC.out]; exact ho)]
          | true =>
            have hari := ari_ok ho
            go_wp2_with fail
            refine (cellOk_any c _ hs).mono ?_
            rintro e w1 ⟨rfl, hb1⟩
            have hq0 := hb1.cell (p := ⟨wr.heap.size, 0, none⟩) (by simp)
            have hq1 := hb1.cell (p := ⟨wr.heap.size, 1, none⟩) (by simp)
            have hq2 := hb1.cell (p := ⟨wr.heap.size, 2, none⟩) (by simp)
            go_wp2_with fail
            refine (cellArity_any c _).mono ?_
            rintro e w2 ⟨rfl, hb2⟩
            clear hq0 hq1 hq2 c0 c1 c2
            go_wp2
            go_roundw
            case rel =>
              refine ⟨k + 1, x + (ari c - 1), by omega, by go_num, by go_num, by omega, by omega, ?_, ((hB.alloc hB.size _).trans (hb1.mono (by have := hB.size; simp; omega))).trans (hb2.mono (by have := hB.size; have := hb1.size; simp at this; omega))⟩
              rw [H.out, goes_step hlt x hx (by rw [← HC.out]; exact ho), HC.out]
            case measure => simp [intOf]; omega
      · go_wp2
        go_ret
        refine ⟨ret_bool ?_, hB⟩
        rw [trm_of h40 H.out, goes_end hlt]
        rfl
  · go_enter Try.func32, Try.ntmps32
    go_wp2
    go_ret
    exact ⟨ret_bool (trm_long h40).symm, Below.refl _ _⟩

set_option maxHeartbeats 400000 in
theorem TrmOk_none (ao : Option Addr) (cap : Nat) (w : World) :
    Calls Try.prog 32 #[.slice ao 0 cap] w fun e w' => e = .returned (.bool false) ∧ Below w.heap.size w w' := by
  go_enter Try.func32, Try.ntmps32
  go_wp2
  refine wp_loop_rounds 1 ?_
  rw [rounds_succ]
  go_wp2
  go_ret
  exact ⟨rfl, Below.refl _ _⟩

/-- The program's TrmOk, of whatever places: whether they are a term. -/
theorem TrmOk_any (ao : Option Addr) (cap : Nat) (t : List C) (w : World) (hm : t.length ≤ maxLen) (hA : Row w ao t) (hF : Fit t) :
    Calls Try.prog 32 #[.slice ao t.length cap] w fun e w' => e = .returned (.bool (trm t)) ∧ Below w.heap.size w w' := by
  rcases hA with rfl | ⟨b, off, rfl, hA⟩
  · rw [trm_nil]; exact TrmOk_none ao cap w
  · exact TrmOk_some b off cap t w hm hA hF
end Go.Proofs.Ytcimlcmhodpalaa
