/- The words of a term's places: decimals, without memory. -/
import Derived.Test.YtoanmnmodlocgaaDoorPX1
import Derived.Test.YtoanmnmodlocgaaDoorYB3
import Derived.Lib.ItoaNum
namespace Go.Proofs.YtoanmnmodlocgaaDoor
set_option linter.unusedVariables false
set_option linter.unusedSimpArgs false

theorem ba_ext {a b : ByteArray} (h : a.data = b.data) : a = b := by cases a; cases b; simp_all
theorem ba_mk (a b : Array UInt8) : (⟨a⟩ : ByteArray) ++ ⟨b⟩ = ⟨a ++ b⟩ := ba_ext (by simp [ByteArray.data_append])
/-- Decimals. -/
def decB (n : Nat) : ByteArray := ⟨(Go.Lib.decDigits n).toArray⟩
def numB (n : Int) : ByteArray := ⟨(Go.Lib.itoa n).toArray⟩
def xB : ByteArray := ⟨#[88]⟩
def mnB : ByteArray := ⟨#[45]⟩
/-- The word of a place, but for its arguments. -/
def wordB (c : C) : ByteArray := if c.k = 1 then xB ++ numB c.n else if c.k = 2 then numB c.n else c.s
theorem numB_pos {n : Int} (h : 0 ≤ n) : numB n = decB n.toNat := by
  unfold numB decB Go.Lib.itoa
  rw [if_neg (by omega)]
theorem numB_neg {n : Int} (h : n < 0) : numB n = mnB ++ decB (-n).toNat := by
  unfold numB decB Go.Lib.itoa mnB
  rw [if_pos h, ba_mk]
  refine ba_ext ?_
  rw [show n.natAbs = (-n).toNat by omega]
  simp
theorem decB_small {n : Nat} (h : n < 10) : decB n = ⟨#[UInt8.ofNat (48 + n)]⟩ := by
  unfold decB
  rw [Go.Lib.decDigits, dif_pos h]
theorem decB_step {n : Nat} (h : ¬ n < 10) : decB n = decB (n / 10) ++ ⟨#[UInt8.ofNat (48 + n % 10)]⟩ := by
  unfold decB
  rw [Go.Lib.decDigits, dif_neg h, ba_mk]
  refine ba_ext ?_
  simp
theorem one_size (x : UInt8) : (⟨#[x]⟩ : ByteArray).size = 1 := rfl
theorem decB_size : ∀ (k n : Nat), n < 10 ^ (k + 1) → (decB n).size ≤ k + 1
  | 0, n, h => by
      rw [decB_small (by simpa using h), one_size]
      exact Nat.le_refl _
  | k + 1, n, h => by
      by_cases hs : n < 10
      · rw [decB_small hs, one_size]
        omega
      · rw [decB_step hs, ByteArray.size_append, one_size]
        have := decB_size k (n / 10) (by rw [Nat.pow_succ] at h; omega)
        omega
theorem wordB_size {c : C} (h : okC c = true) : (wordB c).size ≤ 8 := by
  obtain ⟨_, h1, h2, hp⟩ := okC_parts h
  have hd : (numB c.n).size ≤ 6 := by
    by_cases h0 : c.n < 0
    · rw [numB_neg h0, ByteArray.size_append]
      have := decB_size 4 (-c.n).toNat (by rw [show 10 ^ (4 + 1) = 100000 from rfl]; omega)
      have e : mnB.size = 1 := rfl
      omega
    · rw [numB_pos (by omega)]
      have := decB_size 4 c.n.toNat (by rw [show 10 ^ (4 + 1) = 100000 from rfl]; omega)
      omega
  unfold wordB
  split
  · rw [ByteArray.size_append]
    have e : xB.size = 1 := rfl
    omega
  · split
    · omega
    · exact hp
end Go.Proofs.YtoanmnmodlocgaaDoor
