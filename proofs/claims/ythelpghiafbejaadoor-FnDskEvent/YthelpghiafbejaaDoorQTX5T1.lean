import Derived.Test.YthelpghiafbejaaDoorQTX1TX4TXS
import Derived.RangeFuncNested
import Derived.RangeFuncBound
import Derived.RangeFuncCalls
import Derived.RangeFuncLeaves
import Derived.RangeFuncBox
import Derived.Shelf.Abstract
import Derived.Shelf.RegionOpen
import Derived.WalkKit
import Derived.OwnWalkIn
import Derived.TacticsInMore
import Derived.LoopNIn
import Derived.LoopIn
import Derived.Test.YthelpghiafbejaaDoorQMem2Mem3W9
import Derived.Test.YthelpghiafbejaaDoorQYB2W2
/- A strings.Builder of the program: what it holds is told; decimals. -/
namespace Go.Proofs.YthelpghiafbejaaDoor
open Go.RowKit
set_option linter.unusedVariables false
set_option linter.unusedSimpArgs false

theorem bytesL_cells (s : ByteArray) : bys (bytesL s) = Go.Lib.byteCells s.data.toList := by simp [bys, bytesL, Go.Lib.byteCells]
/-- The table of powers of ten is there. -/
def TenT (w : World) : Prop := Go.Lib.TabIs Tryd.prog w "internal/strconv.uint64pow10" .u64 Go.Lib.pow10Tab
theorem TenT.below {w w' : World} (h : TenT w) (hb : Below w.heap.size w w') : TenT w' := by
  unfold TenT Go.Lib.TabIs World.var? at *
  cases hg : Tryd.prog.globalNamed "internal/strconv.uint64pow10" with
  | none => simp [hg] at h
  | some g =>
    simp only [hg, Option.bind_some] at h ⊢
    have hlt : g < w.heap.size := by
      rcases Nat.lt_or_ge g w.heap.size with h' | h'
      · exact h'
      · simp [Array.getElem?_eq_none h'] at h
    rw [hb.block g hlt]
    exact h
theorem Itoa_any (n : Int) (w : World) (h0 : -100000 ≤ n) (h1 : n ≤ 100000) (hT : TenT w) :
    Calls Tryd.prog 28 #[.int .i64 n] w fun e w' => e = .returned (.string (numB n)) ∧ Below w.heap.size w w' := by
  refine (Any.strconv_Itoa laysM171 n (by omega) (by omega) w hT).mono ?_
  rintro e w' ⟨rfl, k, os, rfl⟩
  exact ⟨rfl, ⟨rfl, rfl, rfl, by simp [Go.Sort.grow, World.drewN], fun i hi => by simp [Go.Sort.grow, World.drewN, Array.getElem?_append_left hi]⟩⟩
end Go.Proofs.YthelpghiafbejaaDoor

/- Trees in memory: their shape, what keeps it; the walks of tell, nodes. -/
namespace Go.Proofs.YthelpghiafbejaaDoor
open Go.RowKit Go.Shelf
set_option linter.unusedVariables false
set_option linter.unusedSimpArgs false
attribute [local go_sem] Oper.semAt_some

/-- What a world keeps of another, but for ints: all that lies in the blocks of S. -/
def KpS (n₀ : Nat) (W W' : World) : Prop := ∀ b i v, b < n₀ → W.cell? ⟨b, i, none⟩ = some v → (∀ q z, v ≠ .int q z) → W'.cell? ⟨b, i, none⟩ = some v

theorem KpS.refl (n₀ : Nat) (W : World) : KpS n₀ W W := fun _ _ _ _ h _ => h
theorem KpS.trans {n₀ : Nat} {A B C : World} (h : KpS n₀ A B) (k : KpS n₀ B C) : KpS n₀ A C := fun b i v hb hc hv => k b i v hb (h b i v hb hc hv) hv
theorem KpS.of_below {n₀ : Nat} {A B : World} (h : Below n₀ A B) : KpS n₀ A B := fun b i v hb hc _ => (h.cell (p := ⟨b, i, none⟩) hb).trans hc

/-- From block p on lies a tree, no higher than f, all of it below n₀; its nodes' blocks, in the order of places, are gs. -/
def Shp (n₀ : Nat) (W : World) : Nat → Nat → List Nat → Prop
  | 0, _, _ => False
  | f + 1, p, gs => ∃ (ks : List (Nat × List Nat)) (ao : Option Addr) (cap : Nat), gs = p :: (ks.map (·.2)).flatten ∧ p < n₀ ∧ ks.length ≤ maxLen ∧ W.cell? ⟨p, 3, none⟩ = some (.slice ao ks.length cap) ∧
      (ks = [] ∨ ∃ q, ao = some ⟨q, 0, none⟩ ∧ q < n₀ ∧ ∀ i, (h : i < ks.length) → W.cell? ⟨q, i, none⟩ = some (.pointer (some ⟨ks[i].1, 0, none⟩))) ∧ ∀ k ∈ ks, Shp n₀ W f k.1 k.2

theorem Shp.kept {n₀ : Nat} {W W' : World} (hk : KpS n₀ W W') : ∀ {f p : Nat} {gs : List Nat}, Shp n₀ W f p gs → Shp n₀ W' f p gs
  | f + 1, p, gs, ⟨ks, ao, cap, hg, hp, hm, hc, hr, hs⟩ => ⟨ks, ao, cap, hg, hp, hm, hk _ _ _ hp hc (fun _ _ h => by cases h), hr.imp_right fun ⟨q, e, hq, h⟩ => ⟨q, e, hq, fun i hi => hk _ _ _ hq (h i hi) (fun _ _ h => by cases h)⟩, fun k hm => (hs k hm).kept hk⟩

theorem Shp.below {n₀ : Nat} {W W' : World} (hk : Below n₀ W W') {f p : Nat} {gs : List Nat} (h : Shp n₀ W f p gs) : Shp n₀ W' f p gs := h.kept (KpS.of_below hk)

theorem room_of_none {F : Fence} (hd : F.depth = none) (k : Nat) : F.room k := fun d h => by rw [hd] at h; cases h
theorem round_anyDepth {F : Fence} (hd : F.depth = none) {m m' : Nat} {P : Program} {l : Nat} {f : FuncId} {tmps : Array Value} {assign body : Code} {w : World} {R : Ending → World → Prop}
    (h : RoundIn F m P l f tmps assign body w R) : RoundIn F m' P l f tmps assign body w R := ⟨h.1, fun c cs _ => h.2 c cs (room_of_none hd _)⟩
theorem yield_anyDepth {F : Fence} (hd : F.depth = none) {m : Nat} (m' : Nat) {P : Program} {l : Nat} {args : Array Value} {W : World} {R : Ending → World → Prop} (h : YieldAt F m P l args W R) : YieldAt F m' P l args W R := by
  obtain ⟨fn, tmps, assign, body, hy, hR⟩ := h
  exact ⟨fn, tmps, assign, body, hy, round_anyDepth hd hR⟩

theorem pre_of_append {α : Type} (a b : List α) : a <+: a ++ b := ⟨b, rfl⟩

theorem kpsK_t {n₀ : Nat} {A B C : World} (h : KpS n₀ A B) (k : KpS n₀ B C) : KpS n₀ A C := h.trans k
theorem kpsK_b {n₀ : Nat} {w : World} (hn : n₀ ≤ w.heap.size) (W : World) (l : Nat) (o o' : Obj) (hl : w.heap.size ≤ l) (h : W.heap[l]? = some o) (h1 : o.isCells = false) (h2 : o.isWalk = false) : KpS n₀ W (W.putObj l o') := KpS.of_below (belowK_b hn W l o o' hl h h1 h2)
end Go.Proofs.YthelpghiafbejaaDoor
