/- A strings.Builder of the program: what it holds is told; decimals. -/
import Derived.Test.YtoanmnmodlocgaaDoorTX4
import Derived.Test.YtoanmnmodlocgaaDoorTXS
namespace Go.Proofs.YtoanmnmodlocgaaDoor
open Go.RowKit
set_option linter.unusedVariables false
set_option linter.unusedSimpArgs false

theorem bytesL_cells (s : ByteArray) : bys (bytesL s) = Go.Lib.byteCells s.data.toList := by simp [bys, bytesL, Go.Lib.byteCells]
theorem String_any (B b : Nat) (s : ByteArray) (w : World) (h : Bld w B b s) (hB : B ≤ w.heap.size) :
    Calls Tryd.prog 52 #[.pointer (some ⟨b, 0, none⟩)] w fun e w' => e = .returned (.string s) ∧ Below B w w' := by
  have hI : Go.Lib.IsBuilder 86 5 B b (Go.Lib.byteCells s.data.toList) w := by
    obtain ⟨hb, p, v, hX, hp, hO, hne⟩ := h
    have hO' : w.ownsRow B 5 1 v (Go.Lib.byteCells s.data.toList).length (Go.Lib.byteCells s.data.toList) := by
      have := hO
      unfold OwnY at this
      rw [bytesL_cells, bytesL_length] at this
      rwa [Go.Lib.byteCells_length, show s.data.toList.length = s.size from Array.length_toList]
    rcases hp with rfl | rfl
    · exact .inl ⟨hb, v, hX, hO', hne⟩
    · exact .inr ⟨hb, v, hX, hO', hne⟩
  refine (Any.Builder_String_any lays169 Builder_Extra_169 B b s.data.toList w hI hB).mono ?_
  rintro e w' ⟨rfl, hb⟩
  exact ⟨by rw [Array.toArray_toList], hb⟩

/-- The table of powers of ten is there. -/
def TenT (w : World) : Prop := Go.Lib.TabIs Tryd.prog w "internal/strconv.uint64pow10" .u64 Go.Lib.pow10Tab
theorem TenT.below {w w' : World} (h : TenT w) (hb : Below w.heap.size w w') : TenT w' := by
  unfold TenT Go.Lib.TabIs World.var? at *
  cases hg : Tryd.prog.globalNamed "internal/strconv.uint64pow10" with
  | none => simp [hg] at h
  | some g =>
    simp only [hg, Option.bind_some] at h ⊢
    have hlt : g < w.heap.size := by
      rcases Nat.lt_or_ge g w.heap.size with h' | h'
      · exact h'
      · simp [Array.getElem?_eq_none h'] at h
    rw [hb.block g hlt]
    exact h
theorem Itoa_any (n : Int) (w : World) (h0 : -100000 ≤ n) (h1 : n ≤ 100000) (hT : TenT w) :
    Calls Tryd.prog 62 #[.int .i64 n] w fun e w' => e = .returned (.string (numB n)) ∧ Below w.heap.size w w' := by
  refine (Any.strconv_Itoa laysM171 n (by omega) (by omega) w hT).mono ?_
  rintro e w' ⟨rfl, k, os, rfl⟩
  exact ⟨rfl, ⟨rfl, rfl, rfl, by simp [Go.Sort.grow, World.drewN], fun i hi => by simp [Go.Sort.grow, World.drewN, Array.getElem?_append_left hi]⟩⟩
end Go.Proofs.YtoanmnmodlocgaaDoor
