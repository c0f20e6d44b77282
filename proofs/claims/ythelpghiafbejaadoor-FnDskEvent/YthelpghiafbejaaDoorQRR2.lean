/- The reader of texts of the program: decimals. -/
import Derived.Test.YthelpghiafbejaaDoorQRR1
import Derived.Lib.AtoiErrMem
import Derived.Shelf.Strconv.AtoiAll
namespace Go.Proofs.YthelpghiafbejaaDoor
open Go.RowKit
set_option linter.unusedVariables false
set_option linter.unusedSimpArgs false

theorem Itoa_all (n : Int) (w : World) (h0 : -9223372036854775808 ≤ n) (h1 : n ≤ 9223372036854775807) (hT : TenT w) :
    Calls Tryd.prog 28 #[.int .i64 n] w fun e w' => e = .returned (.string (numB n)) ∧ Below w.heap.size w w' := by
  refine (Any.strconv_Itoa laysM171 n (by omega) (by omega) w hT).mono ?_
  rintro e w' ⟨rfl, k, os, rfl⟩
  exact ⟨rfl, ⟨rfl, rfl, rfl, by simp [Go.Sort.grow, World.drewN], fun i hi => by simp [Go.Sort.grow, World.drewN, Array.getElem?_append_left hi]⟩⟩

theorem Atoi_ok (l : List UInt8) (hl : l.length ≤ 4611686018427387904) (v : Int) (h : Go.Lib.atoiAll l = .ok v) (w : World) :
    Calls Tryd.prog 27 #[.string (mkS l)] w fun e w' => e = .returned (.tuple #[.int .i64 v, .nilIface]) ∧ Below w.heap.size w w' := by
  refine (Any.strconv_Atoi_ok laysC172 (mkS l) (by rw [mkS_size]; omega) v (by rw [show (mkS l).data.toList = l from bl_mkS l]; exact h) w).mono ?_
  rintro e w' ⟨rfl, hw⟩
  refine ⟨rfl, ?_⟩
  rcases hw with rfl | ⟨t, rfl⟩
  · exact Below.refl _ _
  · exact Go.Lib.bytesWorld_below _ _ _
theorem Atoi_no (l : List UInt8) (hl : l.length ≤ 281474976710656) (h : ∀ v, Go.Lib.atoiAll l ≠ .ok v) (w : World) {R : Nat} (hE : ErrT w R) :
    Calls Tryd.prog 27 #[.string (mkS l)] w fun e w' => ∃ n t q, e = .returned (.tuple #[.int .i64 n, .iface t q]) ∧ Below w.heap.size w w' := by
  obtain ⟨⟨e1, c1, h1⟩, ⟨e2, c2, h2⟩, ns, nr⟩ := hE
  have hs : (mkS l).size ≤ 281474976710656 := by rw [mkS_size]; exact hl
  have he : (mkS l).data.toList = l := bl_mkS l
  cases hr : Go.Lib.atoiAll l with
  | ok v => exact absurd hr (h v)
  | «syntax» =>
    refine (Any.strconv_Atoi_syntax laysC172 (mkS l) hs (by rw [he]; exact hr) e1 w c1 h1).mono ?_
    rintro e w' ⟨N, rfl, _, _, hb⟩
    exact ⟨_, _, _, rfl, hb⟩
  | range =>
    refine (Any.strconv_Atoi_range laysC172 (mkS l) hs (by rw [he]; exact hr) e2 w c2 h2).mono ?_
    rintro e w' ⟨N, rfl, _, _, hb⟩
    exact ⟨_, _, _, rfl, hb⟩

theorem tw_take (p : UInt8 → Bool) (l : List UInt8) : l.take (l.takeWhile p).length = l.takeWhile p ∧ l.drop (l.takeWhile p).length = l.dropWhile p ∧ (l.takeWhile p).length ≤ l.length := by
  have h := List.takeWhile_append_dropWhile (p := p) (l := l)
  refine ⟨?_, ?_, ?_⟩
  · conv => lhs; arg 2; rw [← h]
    exact List.take_left' rfl
  · conv => lhs; arg 2; rw [← h]
    exact List.drop_left' rfl
  · have h2 := congrArg List.length h
    rw [List.length_append] at h2
    omega

/-- What decimals are, of that kind and with that sign. -/
def numRes (k sg : Int) (l : List UInt8) : Option (C × List UInt8) := match rdNum l with
  | some (v, r) => if v = 0 ∧ sg < 0 then none else some (⟨k, sg * v, ByteArray.empty⟩, r)
  | none => none

theorem text_ne {l m : List UInt8} (h : l ≠ m) : ((mkS l).toList == (mkS m).toList) = false := by
  rw [ByteArray.toList_eq, ByteArray.toList_eq]
  simp only [beq_eq_false_iff_ne]
  exact fun e => h (by have : bl (mkS l) = bl (mkS m) := e; rwa [bl_mkS, bl_mkS] at this)

end Go.Proofs.YthelpghiafbejaaDoor
