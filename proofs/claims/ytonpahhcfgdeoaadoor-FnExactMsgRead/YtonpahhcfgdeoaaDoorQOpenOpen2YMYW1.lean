import Derived.Test.YtonpahhcfgdeoaaDoorRows
import Derived.Test.YtonpahhcfgdeoaaDoorQPlainW1MemMem2Mem3W9
import Derived.Deep.Strs
import Derived.ProofKit
import Derived.OpenShut
import Derived.OwnWalk
/- Arguments of the laws, opened: places that came in (a slice of structs of three fields). -/
namespace Go.Proofs.YtonpahhcfgdeoaaDoor
open Go.RowKit Go.Deep Go.ChangeShapes Go.WideShapes
set_option linter.unusedVariables false
set_option linter.unusedSimpArgs false

theorem own_knob : ownKnob Tryd.prog.godebug = none := by kernel_rfl
theorem laid_out : laidOutB Tryd.prog = true := by kernel_rfl
theorem Tryd.cellsInt : Tryd.prog.cellsOf 3 = 1 := by kernel_rfl
theorem Tryd.cellsStr : Tryd.prog.cellsOf 9 = 1 := by kernel_rfl

theorem add_zero_spot {b off : Nat} (i : Nat) : (⟨b, off, none⟩ : Addr).add i = ⟨b, off + i, none⟩ := by
  unfold Addr.add
  by_cases h : i = 0
  · simp [h]
  · simp [h]

theorem choose_C {n : Nat} {p : Nat → C → Prop} (h : ∀ i, i < n → ∃ x, p i x) : ∃ f : Nat → C, ∀ i, i < n → p i (f i) := by
  classical
  refine ⟨fun i => if hi : i < n then Classical.choose (h i hi) else ⟨0, 0, ByteArray.empty⟩, fun i hi => ?_⟩
  simp only [dif_pos hi]
  exact Classical.choose_spec (h i hi)

/-- All numbers of places fit an int. -/
def WfC (t : List C) : Prop := ∀ c ∈ t, (Lit.int .i64 c.k).wf = true ∧ (Lit.int .i64 c.n).wf = true

end Go.Proofs.YtonpahhcfgdeoaaDoor

/- Arguments of the laws, opened: bytes that came in. -/
namespace Go.Proofs.YtonpahhcfgdeoaaDoor
open Go.RowKit Go.Deep Go.ChangeShapes Go.WideShapes
set_option linter.unusedVariables false
set_option linter.unusedSimpArgs false

/-- Bytes that came in. -/
def Bin (w : World) (a : Option Addr) (len cap : Nat) (z : Nat → Int) : Prop :=
  len ≤ cap ∧ cap ≤ maxLen ∧ (∀ i, 0 ≤ z i ∧ z i ≤ 255) ∧ (len = 0 ∨ ∃ b off, a = some ⟨b, off, none⟩ ∧ ∀ i, i < len → w.cell? ⟨b, off + i, none⟩ = some (.int .u8 (z i)))

theorem Tryd.cellsByte : Tryd.prog.cellsOf 5 = 1 := by kernel_rfl

/-- A slice of bytes that came in leads to bytes. -/
theorem open_bytes {H : Type} {enc : TypeId × Value → H} {W : World} {a : Option Addr} {len cap : Nat} {d : DataW H} {p : List MemPlace}
    (h : DataW.Trod enc Tryd.prog W 0 (fun _ => true) true 22 (.slice a len cap) d p) : ∃ z, Bin W a len cap z := by
  obtain ⟨fuel, hf⟩ := h
  rcases open_ints Tryd.underlying22 Tryd.underlying5 Tryd.cellsByte hf with ⟨hcs, _⟩ | ⟨x, l, c, zs, hcs, _, hl, hm, hz, _, hcell, hwz⟩
  · simp [Value.cells] at hcs
    obtain ⟨rfl, rfl, rfl⟩ := hcs
    exact ⟨fun _ => 0, Nat.le_refl _, by simp [maxLen], fun _ => ⟨by simp, by simp⟩, .inl rfl⟩
  · simp [Value.cells] at hcs
    obtain ⟨rfl, rfl, rfl⟩ := hcs
    have hzl : zs.length = cap := by simpa using hz
    have hb : ∀ i, 0 ≤ zs.getD i 0 ∧ zs.getD i 0 ≤ 255 := fun i => by
      by_cases hi : i < zs.length
      · have hm' : zs.getD i 0 ∈ zs := by rw [show zs.getD i 0 = zs[i] by simp [List.getD, hi]]; exact List.getElem_mem hi
        have hw' := hwz _ hm'
        generalize zs.getD i 0 = y at hw' ⊢
        simpa [Lit.wf, IntKind.min, IntKind.max, IntKind.signed, IntKind.bits] using hw'
      · rw [show zs.getD i 0 = 0 by simp [List.getD, hi]]; omega
    refine ⟨fun i => zs.getD i 0, hl, hm, hb, ?_⟩
    by_cases h0 : len = 0
    · exact .inl h0
    · right
      obtain ⟨b, off, spot⟩ := x
      have hsp : spot = none := by
        have := hcell 0 (by omega)
        simpa [Addr.add] using World.cell?_spot this
      subst hsp
      refine ⟨b, off, rfl, fun i hi => ?_⟩
      have := hcell i (by omega)
      rwa [add_zero_spot] at this
end Go.Proofs.YtonpahhcfgdeoaaDoor

/- Bytes in memory: a slice that leads to them, and what owns them. -/
namespace Go.Proofs.YtonpahhcfgdeoaaDoor
open Go.RowKit
set_option linter.unusedVariables false
set_option linter.unusedSimpArgs false

/-- All are bytes. -/
def ByL (z : List Int) : Prop := ∀ x ∈ z, 0 ≤ x ∧ x ≤ 255
def AtY (w : World) (b off : Nat) (z : List Int) : Prop := ∀ i, (h : i < z.length) → w.cell? ⟨b, off + i, none⟩ = some (.int .u8 z[i])
def RowY (w : World) (ao : Option Addr) (z : List Int) : Prop := z = [] ∨ ∃ b off, ao = some ⟨b, off, none⟩ ∧ AtY w b off z

theorem ByL.get {z : List Int} (h : ByL z) (i : Nat) (hi : i < z.length) : 0 ≤ z[i] ∧ z[i] ≤ 255 := h _ (List.getElem_mem hi)
theorem ByL.nil : ByL [] := fun x h => by cases h
theorem ByL.one {x : Int} (h : 0 ≤ x ∧ x ≤ 255) : ByL [x] := fun y hy => by simp at hy; subst hy; exact h
theorem ByL.app {a b : List Int} (ha : ByL a) (hb : ByL b) : ByL (a ++ b) := fun x hx => by
  rcases List.mem_append.1 hx with h | h
  · exact ha x h
  · exact hb x h
theorem ByL.take {a : List Int} (ha : ByL a) (k : Nat) : ByL (a.take k) := fun x hx => ha x (List.mem_of_mem_take hx)
theorem ByL.drop {a : List Int} (ha : ByL a) (k : Nat) : ByL (a.drop k) := fun x hx => ha x (List.mem_of_mem_drop hx)

theorem AtY.below {w w' : World} {b off : Nat} {z : List Int} (h : AtY w b off z) (hb : Below w.heap.size w w') : AtY w' b off z := fun i hi =>
  (hb.cell (p := ⟨b, off + i, none⟩) (World.block_lt_of_cell? w ⟨b, _, none⟩ (h i hi))).trans (h i hi)
theorem RowY.below {w w' : World} {ao : Option Addr} {z : List Int} (h : RowY w ao z) (hb : Below w.heap.size w w') : RowY w' ao z := by
  rcases h with h | ⟨b, off, e, h⟩
  · exact .inl h
  · exact .inr ⟨b, off, e, h.below hb⟩
theorem AtY.lt {w : World} {b off : Nat} {z : List Int} (h : AtY w b off z) (hl : 0 < z.length) : b < w.heap.size :=
  World.block_lt_of_cell? w ⟨b, _, none⟩ (h 0 hl)
theorem AtY.take {w : World} {b off : Nat} {z : List Int} (h : AtY w b off z) (k : Nat) : AtY w b off (z.take k) := fun i hi => by
  have hi' : i < z.length := by simp at hi; omega
  rw [List.getElem_take]
  exact h i hi'
theorem AtY.drop {w : World} {b off : Nat} {z : List Int} (h : AtY w b off z) (k : Nat) : AtY w b (off + k) (z.drop k) := fun i hi => by
  have hi' : k + i < z.length := by simp at hi; omega
  rw [List.getElem_drop, Nat.add_assoc]
  exact h (k + i) hi'
theorem RowY.of_at {w : World} {b off : Nat} {z : List Int} (h : AtY w b off z) : RowY w (some ⟨b, off, none⟩) z := .inr ⟨b, off, rfl, h⟩

/-- The bytes as they lie. -/
def bys (z : List Int) : List Value := z.map (Value.int .u8)
theorem bys_length (z : List Int) : (bys z).length = z.length := by simp [bys]
theorem bys_get (z : List Int) (i : Nat) (h : i < z.length) : (bys z)[i]? = some (.int .u8 z[i]) := by simp [bys, h]
theorem bys_app (a b : List Int) : bys (a ++ b) = bys a ++ bys b := by simp [bys]
theorem bys_one (z : List Int) : ∀ u ∈ bys z, u.oneCell' = true := fun u hu => by
  obtain ⟨x, _, rfl⟩ := List.mem_map.1 hu
  rfl

/-- A slice value v owns the bytes z. -/
def OwnY (w : World) (base : Nat) (v : Value) (z : List Int) : Prop := w.ownsRow base 5 1 v z.length (bys z)

theorem ownsY_at {w : World} {base e g cap n : Nat} {z : List Int} (h : w.ownsRow base e 1 (.slice (some ⟨g, 0, none⟩) n cap) n (bys z)) (hn : n = z.length) : AtY w g 0 z := fun i hi => by
  have e0 := h.cellAt i (by omega)
  rw [Nat.zero_add]
  exact e0.trans (bys_get z i hi)

theorem OwnY.shape {w : World} {base : Nat} {v : Value} {z : List Int} (h : OwnY w base v z) : ∃ ao cap, v = .slice ao z.length cap ∧ RowY w ao z := by
  have h' := h
  rcases h.2 with ⟨e, hn⟩ | ⟨g, cap, cur, e, _⟩
  · refine ⟨none, 0, ?_, .inl (List.length_eq_zero_iff.1 hn)⟩
    rw [e, hn]
  · subst e
    exact ⟨_, _, rfl, .inr ⟨g, 0, rfl, ownsY_at h' rfl⟩⟩
theorem OwnY.row {w : World} {base : Nat} {ao : Option Addr} {n cap : Nat} {z : List Int} (h : OwnY w base (.slice ao n cap) z) : RowY w ao z := by
  obtain ⟨ao', cap', e, hR⟩ := h.shape
  simp only [Value.slice.injEq] at e
  obtain ⟨rfl, _, _⟩ := e
  exact hR
theorem OwnY.below {w w1 : World} {base : Nat} {v : Value} {z : List Int} (h : OwnY w base v z) (hb : Below w.heap.size w w1) : OwnY w1 base v z := own_below h hb
theorem OwnY.some {w : World} {base : Nat} {v : Value} {z : List Int} (h : OwnY w base v z) (hl : 0 < z.length) : ∃ g cap, v = .slice (some ⟨g, 0, none⟩) z.length cap ∧ base ≤ g ∧ g < w.heap.size ∧ AtY w g 0 z ∧ z.length ≤ cap ∧ cap ≤ maxLen := by
  have h' := h
  rcases h.2 with ⟨e, hn⟩ | ⟨g, cap, cur, e, hb, hg, hc, hm, _⟩
  · omega
  · subst e
    exact ⟨g, cap, rfl, hb, (Array.getElem?_eq_some_iff.1 hg).1, ownsY_at h' rfl, hc, hm⟩

/-- Bytes that came in are a list of bytes. -/
theorem Bin.list {w : World} {a : Option Addr} {len cap : Nat} {z : Nat → Int} (h : Bin w a len cap z) : ∃ y : List Int, y.length = len ∧ ByL y ∧ RowY w a y ∧ len ≤ cap ∧ cap ≤ maxLen := by
  obtain ⟨h1, h2, h3, h4⟩ := h
  refine ⟨(List.range len).map z, by simp, ?_, ?_, h1, h2⟩
  · intro x hx
    obtain ⟨i, _, rfl⟩ := List.mem_map.1 hx
    exact h3 i
  · rcases h4 with rfl | ⟨b, off, e, hc⟩
    · exact .inl rfl
    · refine .inr ⟨b, off, e, fun i hi => ?_⟩
      have hi' : i < len := by simpa using hi
      simpa using hc i hi'
end Go.Proofs.YtonpahhcfgdeoaaDoor

/- The walks of eqByteS, caBytes, markByteS, heldByteS, toByteS. -/
namespace Go.Proofs.YtonpahhcfgdeoaaDoor
open Go.RowKit
set_option linter.unusedVariables false
set_option linter.unusedSimpArgs false

set_option maxHeartbeats 1000000 in
theorem eqByteS_some (b off cap b' off' cap' : Nat) (z y : List Int) (w : World) (hm : z.length ≤ maxLen) (hA : AtY w b off z) (hU : AtY w b' off' y) (hl : z.length = y.length) :
    Calls Tryd.prog 8 #[.slice (some ⟨b, off, none⟩) z.length cap, .slice (some ⟨b', off', none⟩) y.length cap'] w fun e w' => e = .returned (.bool (decide (z = y))) ∧ Below w.heap.size w w' := by
  unfold maxLen at hm
  have hne : ((z.length : Int) != (y.length : Int)) = false := by simp; omega
  have hul : y.length ≤ 2 ^ 63 - 1 := by omega
  have HL := hide hl
  clear hl
  go_enter Tryd.func8, Tryd.ntmps8
  go_wp2
  go_loopw [5] (fun i wr => ∃ (k : Nat), k ≤ z.length ∧ i = .int .i64 k ∧ z.take k = y.take k ∧ Below w.heap.size w wr) (fun i _ => z.length - (intOf i).toNat)
  case atStart => exact ⟨0, Nat.zero_le _, rfl, rfl, Below.refl _ _⟩
  case round =>
    obtain ⟨k, hk, rfl, hx, hB⟩ := hrel
    have HX := hide hx
    clear hx
    by_cases hlt : k < z.length
    · have hlu : k < y.length := by rw [← unhide HL]; exact hlt
      have c0 := (hA.below hB) k hlt
      have d0 := (hU.below hB) k hlu
      obtain ⟨c, hc⟩ : ∃ c, c = z[k] := ⟨_, rfl⟩
      rw [← hc] at c0
      have HC := hide hc
      clear hc
      obtain ⟨d, hd⟩ : ∃ d, d = y[k] := ⟨_, rfl⟩
      rw [← hd] at d0
      have HD := hide hd
      clear hd
      by_cases hsm : c = d
      · have hb : (c != d) = false := by simpa using hsm
        have HS := hide hsm
        clear hsm
        go_wp2
        go_quiet (fail)
        go_wp2
        go_roundw
        case rel => exact ⟨k + 1, by omega, by go_num, by rw [List.take_succ_eq_append_getElem hlt, List.take_succ_eq_append_getElem hlu, unhide HX, ← unhide HC, ← unhide HD, unhide HS], below_drewN hB _⟩
        case measure => simp [intOf]; omega
      · have hb : (c != d) = true := by simpa using hsm
        have HS := hide hsm
        clear hsm
        go_wp2
        go_quiet (fail)
        go_wp2
        go_ret
        refine ⟨ret_bool (decide_eq_no (fun h => ?_)).symm, below_drewN hB _⟩
        have e : c = d := by rw [unhide HC, unhide HD]; simp [h]
        exact (unhide HS) e
    · go_wp2
      go_ret
      refine ⟨ret_bool (decide_eq_yes ?_).symm, hB⟩
      have := unhide HX
      rw [List.take_of_length_le (by omega), List.take_of_length_le (by rw [← unhide HL]; omega)] at this
      exact this

set_option maxHeartbeats 400000 in
theorem eqByteS_far (ao bo : Option Addr) (n m cap cap' : Nat) (w : World) (hl : n ≠ m) :
    Calls Tryd.prog 8 #[.slice ao n cap, .slice bo m cap'] w fun e w' => e = .returned (.bool false) ∧ Below w.heap.size w w' := by
  have hne : ((n : Int) != (m : Int)) = true := by rw [bne_iff_ne]; omega
  go_enter Tryd.func8, Tryd.ntmps8
  go_wp2
  go_ret
  exact ⟨rfl, Below.refl _ _⟩

set_option maxHeartbeats 400000 in
theorem eqByteS_none (ao bo : Option Addr) (cap cap' : Nat) (w : World) :
    Calls Tryd.prog 8 #[.slice ao 0 cap, .slice bo 0 cap'] w fun e w' => e = .returned (.bool true) ∧ Below w.heap.size w w' := by
  go_enter Tryd.func8, Tryd.ntmps8
  go_wp2
  refine wp_loop_rounds 1 ?_
  rw [rounds_succ]
  go_wp2
  go_ret
  exact ⟨rfl, Below.refl _ _⟩

theorem eqByteS_any (ao bo : Option Addr) (cap cap' : Nat) (z y : List Int) (w : World) (hm : z.length ≤ maxLen) (hA : RowY w ao z) (hU : RowY w bo y) :
    Calls Tryd.prog 8 #[.slice ao z.length cap, .slice bo y.length cap'] w fun e w' => e = .returned (.bool (decide (z = y))) ∧ Below w.heap.size w w' := by
  by_cases hl : z.length = y.length
  · rcases hA with rfl | ⟨b, off, rfl, hA⟩
    · have hu : y = [] := List.length_eq_zero_iff.1 hl.symm
      subst hu
      exact eqByteS_none ao bo cap cap' w
    · rcases hU with rfl | ⟨b', off', rfl, hU⟩
      · have ht : z = [] := List.length_eq_zero_iff.1 hl
        subst ht
        exact eqByteS_none _ bo cap cap' w
      · exact eqByteS_some b off cap b' off' cap' z y w hm hA hU hl
  · rw [decide_eq_no (fun h => hl (by rw [h]))]
    exact eqByteS_far ao bo _ _ cap cap' w hl

/-- What markByteS writes. -/
def marksY (n : Nat) (k : Int) : List Int := (List.range n).map fun i : Nat => (k + (i : Int)) % 256

theorem marksY_length (n : Nat) (k : Int) : (marksY n k).length = n := by simp [marksY]
theorem marksY_get {n i : Nat} {k : Int} (h : i < (marksY n k).length) : (marksY n k)[i] = (k + i) % 256 := by simp [marksY]

theorem setY_take (xs : List Value) (j : Nat) (k : Int) (h : j < xs.length) (hx : xs.take j = bys (marksY j k)) : (xs.set j (.int .u8 ((k + j) % 256))).take (j + 1) = bys (marksY (j + 1) k) := by
  rw [List.take_succ_eq_append_getElem (by simpa using h), List.take_set_of_le (by omega), hx]
  simp [bys, marksY, List.range_succ]

set_option maxHeartbeats 1000000 in
theorem markByteS_some (g cap : Nat) (z : List Int) (k base : Nat) (w : World) (hm : z.length ≤ 4194304) (hk : k ≤ 4194304) (hA : w.ownsRow base 5 1 (.slice (some ⟨g, 0, none⟩) z.length cap) z.length (bys z)) :
    Calls Tryd.prog 9 #[.slice (some ⟨g, 0, none⟩) z.length cap, .int .i64 k] w fun e w' => e = .returned (.int .i64 (k + z.length)) ∧
      w'.ownsRow base 5 1 (.slice (some ⟨g, 0, none⟩) z.length cap) z.length (bys (marksY z.length k)) ∧ w.grownBy w' (some g) := by
  go_enter Tryd.func9, Tryd.ntmps9
  go_wp2
  go_loopw [1, 5] (fun m i wr => ∃ (j : Nat) (xs : List Value), j ≤ z.length ∧ i = .int .i64 j ∧ m = .int .i64 (k + j) ∧ wr.ownsRow base 5 1 (.slice (some ⟨g, 0, none⟩) z.length cap) z.length xs ∧ xs.take j = bys (marksY j k) ∧ w.grownBy wr (some g)) (fun _ i _ => z.length - (intOf i).toNat)
  case atStart => exact ⟨0, _, Nat.zero_le _, rfl, by simp, hA, by simp [bys, marksY], ⟨rfl, rfl, rfl, Nat.le_refl _, fun _ _ _ => rfl⟩⟩
  case round =>
    obtain ⟨j, xs, hj, rfl, rfl, hown, hx, hG⟩ := hrel
    have HX := hide hx
    have hl := hown.1
    clear hx
    by_cases hlt : j < z.length
    · have d0 : wr.cell? ⟨g, j, none⟩ = some (xs[j]'(by omega)) := by rw [hown.cellAt _ (by omega)]; exact List.getElem?_eq_getElem _
      obtain ⟨u, hu⟩ : ∃ u, u = xs[j]'(by omega) := ⟨_, rfl⟩
      rw [← hu] at d0
      clear hu
      have f0 := hown.frozenAt j
      have R := hown.stored j (.int .u8 ((k + j) % 256))
      have HR := hide R
      have HL := hide hl
      clear R hl hown
      go_wp2
      go_roundw
      case rel => exact ⟨j + 1, _, by omega, by go_num, by go_num, (unhide HR).1, setY_take xs j k (by rw [unhide HL]; omega) (unhide HX), ⟨(unhide HR).2.os.trans hG.os, (unhide HR).2.tape.trans hG.tape, (unhide HR).2.output.trans hG.output, Nat.le_trans hG.size (unhide HR).2.size, fun i hi hn => ((unhide HR).2.block i (Nat.lt_of_lt_of_le hi hG.size) hn).trans (hG.block i hi hn)⟩⟩
      case measure => simp [intOf]; omega
    · go_wp2
      go_ret
      have hjl : j = z.length := by omega
      refine ⟨ret_int (by omega), ?_, hG⟩
      have := unhide HX
      rw [List.take_of_length_le (by omega), hjl] at this
      rw [← this]
      exact hown

set_option maxHeartbeats 400000 in
theorem markByteS_none (ao : Option Addr) (cap : Nat) (k : Int) (w : World) :
    Calls Tryd.prog 9 #[.slice ao 0 cap, .int .i64 k] w fun e w' => e = .returned (.int .i64 k) ∧ w' = w := by
  go_enter Tryd.func9, Tryd.ntmps9
  go_wp2
  refine wp_loop_rounds 1 ?_
  rw [rounds_succ]
  go_wp2
  go_ret
  exact ⟨rfl, rfl⟩

theorem markByteS_any (ao : Option Addr) (cap : Nat) (z : List Int) (k base : Nat) (w : World) (hm : z.length ≤ 4194304) (hk : k ≤ 4194304) (hA : OwnY w base (.slice ao z.length cap) z) :
    Calls Tryd.prog 9 #[.slice ao z.length cap, .int .i64 k] w fun e w' => e = .returned (.int .i64 (k + z.length)) ∧
      OwnY w' base (.slice ao z.length cap) (marksY z.length k) ∧ w.grownBy w' (Value.slice ao z.length cap).ownBlock := by
  unfold OwnY at hA ⊢
  rw [marksY_length]
  by_cases h0 : z.length = 0
  · have hz : z = [] := List.length_eq_zero_iff.1 h0
    subst hz
    refine (markByteS_none ao cap k w).mono ?_
    rintro e w' ⟨rfl, rfl⟩
    exact ⟨ret_int (by simp), hA, grown_refl _ _⟩
  · rcases hA.2 with ⟨e, hn⟩ | ⟨g, cap', cur, e, _⟩
    · exact absurd hn h0
    · simp only [Value.slice.injEq] at e
      obtain ⟨rfl, _, rfl⟩ := e
      exact markByteS_some g cap z k base w hm hk hA

theorem Tryd.infoByte : (Tryd.prog.info? 5).map (fun i => (i.zero, i.size, i.bytes)) = some (some (.int .u8 0), 1, 1) := by kernel_rfl

theorem toY_round {w wr : World} {g n k : Nat} {xs : List Value} {z : List Int} {x : Int} (hk : k < z.length) (hc : x = z[k]) (hn : n = z.length)
    (hown : wr.ownsRow w.heap.size 5 1 (.slice (some ⟨g, 0, none⟩) n n) n xs) (hx : xs.take k = bys (z.take k)) (hB : Below w.heap.size w wr) :
    ∃ xs', (wr.setCell ⟨g, k, none⟩ (.int .u8 x)).ownsRow w.heap.size 5 1 (.slice (some ⟨g, 0, none⟩) n n) n xs' ∧ xs'.take (k + 1) = bys (z.take (k + 1)) ∧ Below w.heap.size w (wr.setCell ⟨g, k, none⟩ (.int .u8 x)) := by
  have hgb : w.heap.size ≤ g ∧ g < wr.heap.size := hown.lt g rfl
  have hl : xs.length = n * 1 := hown.1
  refine ⟨_, (hown.stored k (.int .u8 x)).1, ?_, hB.setCell (p := ⟨g, _, none⟩) hgb.1 _⟩
  rw [List.take_succ_eq_append_getElem (by simp; omega), List.take_set_of_le (by omega), hx, List.take_succ_eq_append_getElem hk, bys_app, ← hc]
  simp [bys]

set_option maxHeartbeats 1000000 in
theorem toByteS_some (b off cap : Nat) (z : List Int) (w : World) (hm : z.length ≤ 1048576) (hA : AtY w b off z) :
    Calls Tryd.prog 5 #[.slice (some ⟨b, off, none⟩) z.length cap] w fun e w' => e = .returned (.slice (some ⟨w.heap.size, 0, none⟩) z.length z.length) ∧ w'.ownsRow w.heap.size 5 1 (.slice (some ⟨w.heap.size, 0, none⟩) z.length z.length) z.length (bys z) ∧ Below w.heap.size w w' := by
  obtain ⟨i0, hi, hz0, hz1, hz2⟩ := info_parts Tryd.infoByte
  have hbytes : i0.bytes * z.length ≤ 281474976710656 := by rw [hz2]; omega
  go_enter Tryd.func5, Tryd.ntmps5
  go_wp2_with (at_make; refine wpList_make_full _ rfl _ _ 22 rfl w.heap.size 5 i0 _ 1 Tryd.underlying22 hi hz0 hz1 .i64 .i64 _ _ z.length rfl rfl rfl rfl hbytes (by unfold maxLen; omega) (Nat.le_refl _) ?_; intro w0 hown0 hgr0)
  have hB0 : Below w.heap.size w w0 := (Below.refl _ _).grown hgr0 (Nat.le_refl _) (fun k e => by cases e)
  go_loopw [4] (fun i wr => ∃ (k : Nat) (xs : List Value), k ≤ z.length ∧ i = .int .i64 k ∧ wr.ownsRow w.heap.size 5 1 (.slice (some ⟨w.heap.size, 0, none⟩) z.length z.length) z.length xs ∧ xs.take k = bys (z.take k) ∧ Below w.heap.size w wr) (fun i _ => z.length - (intOf i).toNat)
  case atStart => exact ⟨0, _, Nat.zero_le _, rfl, hown0, by simp [bys], hB0⟩
  case round =>
    obtain ⟨k, xs, hk, rfl, hown, hx, hB⟩ := hrel
    have HX := hide hx
    have hl := hown.1
    clear hx
    by_cases hlt : k < z.length
    · have c0 := (hA.below hB) k hlt
      obtain ⟨c, hc⟩ : ∃ c, c = z[k] := ⟨_, rfl⟩
      rw [← hc] at c0
      have HC := hide hc
      clear hc
      have d0 : wr.cell? ⟨w.heap.size, k, none⟩ = some (xs[k]'(by omega)) := by rw [hown.cellAt _ (by omega)]; exact List.getElem?_eq_getElem _
      obtain ⟨u, hu⟩ : ∃ u, u = xs[k]'(by omega) := ⟨_, rfl⟩
      rw [← hu] at d0
      clear hu
      have f0 := hown.frozenAt k
      have R := toY_round hlt (unhide HC) rfl hown (unhide HX) hB
      have HR := hide R
      clear R hown hl
      go_wp2
      go_roundw
      case rel =>
        obtain ⟨xs', r1, r2, r3⟩ := unhide HR
        exact ⟨k + 1, xs', by omega, by go_num, r1, r2, r3⟩
      case measure => simp [intOf]; omega
    · go_wp2
      go_ret
      refine ⟨rfl, ?_, hB⟩
      have := unhide HX
      rw [List.take_of_length_le (by omega), List.take_of_length_le (by omega)] at this
      rw [← this]
      exact hown

set_option maxHeartbeats 1000000 in
theorem toByteS_none (ao : Option Addr) (cap : Nat) (w : World) :
    Calls Tryd.prog 5 #[.slice ao 0 cap] w fun e w' => e = .returned (.slice (some ⟨w.heap.size, 0, none⟩) 0 0) ∧ w'.ownsRow w.heap.size 5 1 (.slice (some ⟨w.heap.size, 0, none⟩) 0 0) 0 (bys []) ∧ Below w.heap.size w w' := by
  obtain ⟨i0, hi, hz0, hz1, hz2⟩ := info_parts Tryd.infoByte
  go_enter Tryd.func5, Tryd.ntmps5
  go_wp2_with (at_make; refine wpList_make_full _ rfl _ _ 22 rfl w.heap.size 5 i0 _ 1 Tryd.underlying22 hi hz0 hz1 .i64 .i64 _ _ 0 rfl rfl rfl rfl (by simp) (by unfold maxLen; omega) (Nat.le_refl _) ?_; intro w0 hown0 hgr0)
  have hB0 : Below w.heap.size w w0 := (Below.refl _ _).grown hgr0 (Nat.le_refl _) (fun k e => by cases e)
  refine wp_loop_rounds 1 ?_
  rw [rounds_succ]
  go_wp2
  go_ret
  refine ⟨rfl, ?_, hB0⟩
  have hl := hown0.1
  obtain ⟨xs, hxs⟩ : ∃ xs, xs = (madeCells (Value.int .u8 0).cells (0 * 1)).toList := ⟨_, rfl⟩
  rw [← hxs] at hown0 hl
  have hx0 : xs = [] := List.length_eq_zero_iff.1 (by omega)
  rw [hx0] at hown0
  exact hown0

/-- Bytes copied into new memory. -/
theorem toByteS_any (ao : Option Addr) (cap : Nat) (z : List Int) (w : World) (hm : z.length ≤ 1048576) (hA : RowY w ao z) :
    Calls Tryd.prog 5 #[.slice ao z.length cap] w fun e w' => e = .returned (.slice (some ⟨w.heap.size, 0, none⟩) z.length z.length) ∧ w'.ownsRow w.heap.size 5 1 (.slice (some ⟨w.heap.size, 0, none⟩) z.length z.length) z.length (bys z) ∧ Below w.heap.size w w' := by
  rcases hA with rfl | ⟨b, off, rfl, hA⟩
  · exact toByteS_none ao cap w
  · exact toByteS_some b off cap z w hm hA
end Go.Proofs.YtonpahhcfgdeoaaDoor
