import Derived.Test.YtonpahhcfgdeoaaDoorQOpenOpen2YMYW1
import Derived.Test.YtonpahhcfgdeoaaDoorQPlainW1MemMem2Mem3W9
import Derived.Test.YtonpahhcfgdeoaaDoorQW13SB1Plain2YB3Z0
import Derived.Test.YtonpahhcfgdeoaaDoorQW4Plain4PB1
import Derived.Test.YtonpahhcfgdeoaaDoorQW5W10
import Derived.Deep.RegionWith
import Derived.BigQuiet
/- MsgSum of the program and of the specification. -/
namespace Go.Proofs.YtonpahhcfgdeoaaDoor
open Go.RowKit
set_option linter.unusedVariables false
set_option linter.unusedSimpArgs false

/-- A number made of bytes. -/
def sumL (z : List Int) : Int := z.foldl (fun s x => (s * 257 + x) % 65521) 1

theorem sumL_step {z : List Int} {k : Nat} (h : k < z.length) : sumL (z.take (k + 1)) = (sumL (z.take k) * 257 + z[k]) % 65521 := by
  unfold sumL
  rw [List.take_succ_eq_append_getElem h, List.foldl_append]
  rfl
theorem sumL_in_from : ∀ (z : List Int) (s : Int), 0 ≤ s ∧ s ≤ 65520 → 0 ≤ z.foldl (fun s x => (s * 257 + x) % 65521) s ∧ z.foldl (fun s x => (s * 257 + x) % 65521) s ≤ 65520
  | [], s, h => h
  | x :: z, s, h => sumL_in_from z ((s * 257 + x) % 65521) ⟨Int.emod_nonneg _ (by omega), by have := Int.emod_lt_of_pos (s * 257 + x) (show (0 : Int) < 65521 by omega); omega⟩
theorem sumL_in (z : List Int) : 0 ≤ sumL z ∧ sumL z ≤ 65520 := sumL_in_from z 1 (by omega)

theorem tmod_pos {a b : Int} (h : 0 ≤ a) : a.tmod b = a % b := Int.tmod_eq_emod_of_nonneg h

set_option maxHeartbeats 1000000 in
theorem specMsgSum_some (b off cap : Nat) (z : List Int) (w : World) (hm : z.length ≤ maxLen) (hA : AtY w b off z) (hy : ByL z) :
    Calls Tryd.prog 26 #[.slice (some ⟨b, off, none⟩) z.length cap] w fun e w' => e = .returned (.int .i64 (sumL z)) ∧ w' = w := by
  unfold maxLen at hm
  go_enter Tryd.func26, Tryd.ntmps26
  go_wp2
  go_loop [3, 4] (fun m i => ∃ (j : Nat), j ≤ z.length ∧ i = .int .i64 j ∧ m = .int .i64 (sumL (z.take j))) (fun _ i => z.length - (intOf i).toNat)
  case atStart => exact ⟨0, Nat.zero_le _, rfl, rfl⟩
  case round =>
    obtain ⟨j, hj, rfl, rfl⟩ := hrel
    by_cases hlt : j < z.length
    · have d0 := hA j hlt
      have hy0 := hy.get j hlt
      have hs := sumL_in (z.take j)
      have HS := hide (sumL_step hlt)
      obtain ⟨x, hx⟩ : ∃ x, x = z[j] := ⟨_, rfl⟩
      rw [← hx] at d0 hy0 HS
      clear hx
      obtain ⟨s, hs'⟩ : ∃ s, s = sumL (z.take j) := ⟨_, rfl⟩
      rw [← hs'] at hs HS ⊢
      clear hs'
      go_wp2
      go_round
      case rel => exact ⟨j + 1, by omega, by go_num, by rw [unhide HS]⟩
      case measure => simp [intOf]; omega
    · go_wp2
      go_ret
      refine ⟨ret_int ?_, rfl⟩
      rw [List.take_of_length_le (by omega)]

set_option maxHeartbeats 400000 in
theorem specMsgSum_none (ao : Option Addr) (cap : Nat) (w : World) :
    Calls Tryd.prog 26 #[.slice ao 0 cap] w fun e w' => e = .returned (.int .i64 (sumL [])) ∧ w' = w := by
  go_enter Tryd.func26, Tryd.ntmps26
  go_wp2
  refine wp_loop_rounds 1 ?_
  rw [rounds_succ]
  go_wp2
  go_ret
  exact ⟨rfl, rfl⟩

theorem specMsgSum_any (ao : Option Addr) (cap : Nat) (z : List Int) (w : World) (hm : z.length ≤ maxLen) (hA : RowY w ao z) (hy : ByL z) :
    Calls Tryd.prog 26 #[.slice ao z.length cap] w fun e w' => e = .returned (.int .i64 (sumL z)) ∧ w' = w := by
  rcases hA with rfl | ⟨b, off, rfl, hA⟩
  · exact specMsgSum_none ao cap w
  · exact specMsgSum_some b off cap z w hm hA hy

set_option maxHeartbeats 1000000 in
theorem implMsgSum_some (b off cap : Nat) (z : List Int) (w : World) (hm : z.length ≤ maxLen) (hA : AtY w b off z) (hy : ByL z) :
    Calls Tryd.prog 38 #[.slice (some ⟨b, off, none⟩) z.length cap] w fun e w' => e = .returned (.int .i64 (sumL z)) ∧ w' = w := by
  unfold maxLen at hm
  go_enter Tryd.func38, Tryd.ntmps38
  go_wp2
  go_loop [3, 8] (fun m i => ∃ (j : Nat), j ≤ z.length ∧ i = .int .i64 j ∧ m = .int .i64 (sumL (z.take j))) (fun _ i => z.length - (intOf i).toNat)
  case atStart => exact ⟨0, Nat.zero_le _, rfl, rfl⟩
  case round =>
    obtain ⟨j, hj, rfl, rfl⟩ := hrel
    by_cases hlt : j < z.length
    · have d0 := hA j hlt
      have hy0 := hy.get j hlt
      have hs := sumL_in (z.take j)
      have HS := hide (sumL_step hlt)
      obtain ⟨x, hx⟩ : ∃ x, x = z[j] := ⟨_, rfl⟩
      rw [← hx] at d0 hy0 HS
      clear hx
      obtain ⟨s, hs'⟩ : ∃ s, s = sumL (z.take j) := ⟨_, rfl⟩
      rw [← hs'] at hs HS ⊢
      clear hs'
      go_wp2
      go_round
      case rel => exact ⟨j + 1, by omega, by go_num, by rw [unhide HS]⟩
      case measure => simp [intOf]; omega
    · go_wp2
      go_ret
      refine ⟨ret_int ?_, rfl⟩
      rw [List.take_of_length_le (by omega)]

set_option maxHeartbeats 400000 in
theorem implMsgSum_none (ao : Option Addr) (cap : Nat) (w : World) :
    Calls Tryd.prog 38 #[.slice ao 0 cap] w fun e w' => e = .returned (.int .i64 (sumL [])) ∧ w' = w := by
  go_enter Tryd.func38, Tryd.ntmps38
  go_wp2
  refine wp_loop_rounds 1 ?_
  rw [rounds_succ]
  go_wp2
  go_ret
  exact ⟨rfl, rfl⟩

theorem implMsgSum_any (ao : Option Addr) (cap : Nat) (z : List Int) (w : World) (hm : z.length ≤ maxLen) (hA : RowY w ao z) (hy : ByL z) :
    Calls Tryd.prog 38 #[.slice ao z.length cap] w fun e w' => e = .returned (.int .i64 (sumL z)) ∧ w' = w := by
  rcases hA with rfl | ⟨b, off, rfl, hA⟩
  · exact implMsgSum_none ao cap w
  · exact implMsgSum_some b off cap z w hm hA hy
end Go.Proofs.YtonpahhcfgdeoaaDoor

/- The walk of FnExactMsgSum. -/
namespace Go.Proofs.YtonpahhcfgdeoaaDoor
open Go.RowKit
set_option linter.unusedVariables false
set_option linter.unusedSimpArgs false

theorem rowY_of_own {w : World} {base g : Nat} {n cap : Nat} {z : List Int} (h : w.ownsRow base 5 1 (.slice (some ⟨g, 0, none⟩) n cap) n (bys z)) (hn : n = z.length) : RowY w (some ⟨g, 0, none⟩) z := .inr ⟨g, 0, rfl, ownsY_at h hn⟩

end Go.Proofs.YtonpahhcfgdeoaaDoor

/- The specification's TrmBytes, whole; the program's nameAt, appendTerm, TrmBytes. -/
namespace Go.Proofs.YtonpahhcfgdeoaaDoor
open Go.RowKit
set_option linter.unusedVariables false
set_option linter.unusedSimpArgs false
attribute [-go_sem] Go.Builtin.append_

set_option maxRecDepth 100000 in
set_option maxHeartbeats 1000000 in
theorem someStr_any (s : ByteArray) (w : World) :
    Calls Tryd.prog 77 #[.string s] w fun e w' => e = .returned (.agg #[.string s, .bool true]) ∧ Below w.heap.size w w' := by
  go_enter Tryd.func77, Tryd.ntmps77
  go_wp2
  exact bodyPost_ret (v := .agg #[.string s, .bool true]) (by simp [results, Tryd.results77, go_sem]) rfl ⟨rfl, ((Below.refl _ _).alloc (Nat.le_refl _) _)⟩

/-- The name at a place, if one stands there. -/
def nameOf (c : C) : Value := if c.k = 3 then .agg #[.string c.s, .bool true] else .agg #[.string ByteArray.empty, .bool false]

set_option maxRecDepth 100000 in
set_option maxHeartbeats 1000000 in
theorem nameAt_any (c : C) (w : World) :
    Calls Tryd.prog 67 #[.agg #[.int .i64 c.k, .int .i64 c.n, .string c.s]] w fun e w' => e = .returned (nameOf c) ∧ Below w.heap.size w w' := by
  by_cases h3 : c.k = 3
  · have hb : (c.k != 3) = false := by simpa using h3
    have e : nameOf c = .agg #[.string c.s, .bool true] := by simp [nameOf, h3]
    rw [e]
    clear e
    go_enter Tryd.func67, Tryd.ntmps67
    go_wp2_with fail
    refine (someStr_any c.s _).mono ?_
    rintro e w1 ⟨rfl, hb1⟩
    obtain ⟨W, hW⟩ : ∃ W, W = ((w.alloc (Obj.cells #[Value.int IntKind.i64 3, Value.int IntKind.i64 c.n, Value.string c.s] 55)).alloc (Obj.cells #[Value.string ByteArray.empty, Value.bool false] 97)) := ⟨_, rfl⟩
    replace hb1 : Below W.heap.size W w1 := by rw [hW]; exact hb1
    have hB0 : Below w.heap.size w W := by rw [hW]; exact below2 _ _ _
    have hsz : W.heap.size = w.heap.size + 2 := by rw [hW]; simp
    have c0 : W.cell? ⟨w.heap.size + 1, 0, none⟩ = some (.string ByteArray.empty) := by rw [hW]; simp [go_sem]
    have c1 : W.cell? ⟨w.heap.size + 1, 1, none⟩ = some (.bool false) := by rw [hW]; simp [go_sem]
    have f0 : W.frozen? ⟨w.heap.size + 1, 0, none⟩ = false := by rw [hW]; simp [go_sem]
    have f1 : W.frozen? ⟨w.heap.size + 1, 1, none⟩ = false := by rw [hW]; simp [go_sem]
    have d0 := (hb1.cell (p := ⟨w.heap.size + 1, 0, none⟩) (by simp; omega)).trans c0
    have d1 := (hb1.cell (p := ⟨w.heap.size + 1, 1, none⟩) (by simp; omega)).trans c1
    have g0 := (hb1.frozen (p := ⟨w.heap.size + 1, 0, none⟩) (by simp; omega)).trans f0
    have g1 := (hb1.frozen (p := ⟨w.heap.size + 1, 1, none⟩) (by simp; omega)).trans f1
    have hB1 := bstep hB0 hb1
    clear c0 c1 f0 f1 hW hb1 hB0 hsz
    go_wp2
    refine bodyPost_ret (v := .agg #[.string c.s, .bool true]) (by simp [results, Tryd.results67, go_sem, *]) rfl ⟨rfl, ?_⟩
    exact (hB1.setCell (p := ⟨w.heap.size + 1, 0, none⟩) (by simp) _).setCell (p := ⟨w.heap.size + 1, 1, none⟩) (by simp) _
  · have hb : (c.k != 3) = true := by simpa using h3
    have e : nameOf c = .agg #[.string ByteArray.empty, .bool false] := by simp [nameOf, h3]
    rw [e]
    clear e
    go_enter Tryd.func67, Tryd.ntmps67
    go_wp2
    exact bodyPost_ret (v := .agg #[.string ByteArray.empty, .bool false]) (by simp [results, Tryd.results67, go_sem]; rfl) rfl ⟨rfl, below2 _ _ _⟩

end Go.Proofs.YtonpahhcfgdeoaaDoor

/- eqTrmCellS of whatever places; the walk of the law FnExactTrmOk. -/
namespace Go.Proofs.YtonpahhcfgdeoaaDoor
open Go.RowKit
set_option linter.unusedVariables false
set_option linter.unusedSimpArgs false

set_option maxHeartbeats 400000 in
theorem eqTrmCellS_far (ao bo : Option Addr) (n m cap cap' : Nat) (w : World) (hl : n ≠ m) :
    Calls Tryd.prog 20 #[.slice ao n cap, .slice bo m cap'] w fun e w' => e = .returned (.bool false) ∧ Below w.heap.size w w' := by
  have hne : ((n : Int) != (m : Int)) = true := by rw [bne_iff_ne]; omega
  go_enter Tryd.func20, Tryd.ntmps20
  go_wp2
  go_ret
  exact ⟨rfl, Below.refl _ _⟩

set_option maxHeartbeats 400000 in
theorem eqTrmCellS_none (ao bo : Option Addr) (cap cap' : Nat) (w : World) :
    Calls Tryd.prog 20 #[.slice ao 0 cap, .slice bo 0 cap'] w fun e w' => e = .returned (.bool true) ∧ Below w.heap.size w w' := by
  go_enter Tryd.func20, Tryd.ntmps20
  go_wp2
  refine wp_loop_rounds 1 ?_
  rw [rounds_succ]
  go_wp2
  go_ret
  exact ⟨rfl, Below.refl _ _⟩

/-- Whether two lists of places are the same. -/
theorem eqTrmCellS_any (ao bo : Option Addr) (cap cap' : Nat) (t u : List C) (w : World) (hm : t.length ≤ maxLen) (hA : Row w ao t) (hU : Row w bo u) :
    Calls Tryd.prog 20 #[.slice ao t.length cap, .slice bo u.length cap'] w fun e w' => e = .returned (.bool (sameS t u)) ∧ Below w.heap.size w w' := by
  by_cases hl : t.length = u.length
  · rcases hA with rfl | ⟨b, off, rfl, hA⟩
    · have hu : u = [] := List.length_eq_zero_iff.1 hl.symm
      subst hu
      exact eqTrmCellS_none ao bo cap cap' w
    · rcases hU with rfl | ⟨b', off', rfl, hU⟩
      · have ht : t = [] := List.length_eq_zero_iff.1 hl
        subst ht
        exact eqTrmCellS_none _ bo cap cap' w
      · exact eqTrmCellS_some b off cap b' off' cap' t u w hm hA hU hl
  · rw [sameS_no (fun h => hl (by rw [h]))]
    exact eqTrmCellS_far ao bo _ _ cap cap' w hl

theorem row_of_own {w : World} {base e g cap : Nat} {t : List C} (h : w.ownsRow base e 3 (.slice (some ⟨g, 0, none⟩) t.length cap) t.length (flat t)) : Row w (some ⟨g, 0, none⟩) t :=
  .inr ⟨g, 0, rfl, owns_at h rfl⟩

end Go.Proofs.YtonpahhcfgdeoaaDoor

/- The walk of the law FnExactTrmFree. -/
namespace Go.Proofs.YtonpahhcfgdeoaaDoor
open Go.RowKit
set_option linter.unusedVariables false
set_option linter.unusedSimpArgs false

theorem toC {w' : World} {base : Nat} {g n : Nat} {t : List C} (h : w'.ownsRow base 55 3 (.slice (some ⟨g, 0, none⟩) t.length t.length) t.length (flat t)) : OwnC w' base (.slice (some ⟨g, 0, none⟩) t.length t.length) t := h

end Go.Proofs.YtonpahhcfgdeoaaDoor

/- The program's TrmBytes; the walk of FnExactTrmBytes. -/
namespace Go.Proofs.YtonpahhcfgdeoaaDoor
open Go.RowKit
set_option linter.unusedVariables false
set_option linter.unusedSimpArgs false
attribute [-go_sem] Go.Builtin.append_

theorem markByteS_one (ao : Option Addr) (cap : Nat) (z : List Int) (base : Nat) (w : World) (hm : z.length ≤ 1048576) (hA : OwnY w base (.slice ao z.length cap) z) :
    Calls Tryd.prog 9 #[.slice ao z.length cap, .int .i64 1] w fun e w' => e = .returned (.int .i64 (1 + z.length)) ∧
      OwnY w' base (.slice ao z.length cap) (marksY z.length 1) ∧ w.grownBy w' (Value.slice ao z.length cap).ownBlock :=
  markByteS_any ao cap z 1 base w (by omega) (by omega) hA
end Go.Proofs.YtonpahhcfgdeoaaDoor

/- The walk of l21Turn: bytes with one put in, taken out or turned. -/
namespace Go.Proofs.YtonpahhcfgdeoaaDoor
open Go.RowKit
set_option linter.unusedVariables false
set_option linter.unusedSimpArgs false
attribute [-go_sem] Go.Builtin.append_

/-- The run of an append of bytes that lie somewhere, maybe none. -/
theorem app_any (w : World) (base : Nat) (v : Value) (z y : List Int) (b off cap : Nat) (hO : OwnY w base v z) (hb : base ≤ w.heap.size) (hz : z.length + y.length ≤ 4194304) (hA : AtY w b off y) :
    ∃ v' w', (Builtin.append_ #[22, 22] 22 #[v, .slice (some ⟨b, off, none⟩) y.length cap]).run Tryd.prog w = .ok v' w' ∧ OwnY w' base v' (z ++ y) ∧ w.grownBy w' v.ownBlock := by
  obtain ⟨i0, hi, hz0, hz1, hz2⟩ := info_parts Tryd.infoByte
  obtain ⟨v', w', hr, ho, hg, _⟩ := run_append_own (P := Tryd.prog) w base 22 22 5 i0 _ 1 1 Tryd.underlying22 hi hz0 hz1 hz2 rfl (by decide) v z.length _ hO ⟨b, off, none⟩ y.length cap (bys y) (by simp [bys]) (fun j u hj => by
    have hjl : j < y.length := by
      have := (List.getElem?_eq_some_iff.1 hj).1
      simpa [bys] using this
    rw [bys_get y j hjl] at hj
    have e : (⟨b, off, none⟩ : Addr).add j = ⟨b, off + j, none⟩ := by unfold Addr.add; split <;> simp_all
    rw [e, hA j hjl]
    exact hj) (bys_one y) (by unfold maxLen; omega) (by omega) hb
  refine ⟨v', w', hr, ?_, hg⟩
  unfold OwnY
  rw [List.length_append, bys_app]
  exact ho

/-- The run of an append of what is left of bytes behind a place. -/
theorem app_drop (w : World) (base : Nat) (v : Value) (z y : List Int) (g cap m : Nat) (hO : OwnY w base v z) (hb : base ≤ w.heap.size) (hz : z.length + y.length ≤ 4194304) (hA : AtY w g 0 y) (hm : m ≤ y.length) (hc : y.length ≤ cap) :
    ∃ v' w', (Builtin.append_ #[22, 22] 22 #[v, .slice (if cap = m then some ⟨g, 0, none⟩ else some ⟨g, m, none⟩) (y.length - m) (cap - m)]).run Tryd.prog w = .ok v' w' ∧ OwnY w' base v' (z ++ y.drop m) ∧ w.grownBy w' v.ownBlock := by
  by_cases h : cap = m
  · have e : y.drop m = [] := List.drop_eq_nil_of_le (by omega)
    have h0 : AtY w g 0 (y.drop m) := by rw [e]; exact fun i hi => by simp at hi
    obtain ⟨v', w', r, o, gr⟩ := app_any w base v z (y.drop m) g 0 (cap - m) hO hb (by simp; omega) h0
    rw [if_pos h]
    have hl : (y.drop m).length = y.length - m := by simp
    rw [hl] at r
    exact ⟨v', w', r, o, gr⟩
  · have h0 := hA.drop m
    rw [Nat.zero_add] at h0
    obtain ⟨v', w', r, o, gr⟩ := app_any w base v z (y.drop m) g m (cap - m) hO hb (by simp; omega) h0
    rw [if_neg h]
    have hl : (y.drop m).length = y.length - m := by simp
    rw [hl] at r
    exact ⟨v', w', r, o, gr⟩

/-- What is written into new memory leaves what was there. -/
theorem grown_row {w W w5 : World} {R : Nat} {r : Option Nat} (h : w.grownBy W (some R)) (hg : W.grownBy w5 r) (hv : ∀ k, r = some k → w.heap.size ≤ k) : w.grownBy w5 (some R) :=
  ⟨hg.os.trans h.os, hg.tape.trans h.tape, hg.output.trans h.output, Nat.le_trans h.size hg.size, fun k hk hn => (hg.block k (Nat.lt_of_lt_of_le hk h.size) (fun e => by have := hv k e.symm; omega)).trans (h.block k hk hn)⟩
/-- A row of bytes elsewhere is as it was. -/
theorem atY_grown {w w' : World} {b off : Nat} {z : List Int} {r : Option Nat} (h : AtY w b off z) (hg : w.grownBy w' r) (hr : ∀ k, r = some k → b ≠ k) : AtY w' b off z := fun i hi =>
  (World.cell?_of_block (a := ⟨b, off + i, none⟩) (hg.block b (World.block_lt_of_cell? w ⟨b, _, none⟩ (h i hi)) (fun e => hr b e.symm rfl))).trans (h i hi)

end Go.Proofs.YtonpahhcfgdeoaaDoor
