import Derived.Test.YtpfcjdabfmelaaaDoorQYB2
import Derived.Test.YtpfcjdabfmelaaaDoorQW2
import Derived.Test.YtpfcjdabfmelaaaDoorQW4
import Derived.Test.YtpfcjdabfmelaaaDoorQSB1
import Derived.Test.YtpfcjdabfmelaaaDoorQPlain2L1Plain4
import Derived.Lib.AppendStr
import Derived.BigQuiet
import Derived.Deep.RegionWith
import Derived.Test.YtpfcjdabfmelaaaDoorQPX1
import Derived.Lib.ItoaNum
/- A term in bytes, by lists; the specification's TrmBytes. -/
namespace Go.Proofs.YtpfcjdabfmelaaaDoor
open Go.RowKit
set_option linter.unusedVariables false
set_option linter.unusedSimpArgs false
attribute [-go_sem] Go.Builtin.append_

/-- A text's bytes. -/
def bytesL (s : ByteArray) : List Int := s.data.toList.map fun b => (b.toNat : Int)
theorem bytesL_length (s : ByteArray) : (bytesL s).length = s.size := by simp [bytesL]
theorem bytesL_by (s : ByteArray) : ByL (bytesL s) := fun x hx => by
  obtain ⟨b, _, rfl⟩ := List.mem_map.1 hx
  have := b.toNat_lt
  omega
theorem strCells_bys (s : ByteArray) : Go.Lib.strCells s = bys (bytesL s) := by
  simp [Go.Lib.strCells, bys, bytesL]

/-- A place in bytes. -/
def encC (c : C) : List Int := [c.k] ++ num3 c.n ++ if c.k = 3 then [(c.s.size : Int)] ++ bytesL c.s else []
def encL (t : List C) : List Int := t.flatMap encC
/-- A term in bytes; none, if it is none. -/
def encT (t : List C) : List Int := if trm t then [(t.length : Int)] ++ encL t else []

theorem num3_length (n : Int) : (num3 n).length = 3 := by simp [num3, highs]
theorem okC_parts {c : C} (h : okC c = true) : (c.k = 1 ∨ c.k = 2 ∨ c.k = 3) ∧ -9999 ≤ c.n ∧ c.n ≤ 99999 ∧ c.s.size ≤ 8 := by
  by_cases h1 : c.k = 1
  · have := (okC1 h1).1 h
    omega
  by_cases h2 : c.k = 2
  · have := (okC2 h2).1 h
    omega
  by_cases h3 : c.k = 3
  · have := (okC3 h3).1 h
    have h4 := this.2.2
    unfold nameB at h4
    simp only [Bool.and_eq_true, decide_eq_true_eq] at h4
    omega
  · rw [okC4 h1 h2 h3] at h
    cases h
theorem encC_length {c : C} (h : okC c = true) : (encC c).length ≤ 13 := by
  have := okC_parts h
  unfold encC
  rw [List.length_append, List.length_append, num3_length]
  split
  · rw [List.length_append, bytesL_length]
    simp
    omega
  · simp
theorem encL_length : ∀ (t : List C), (∀ c ∈ t, okC c = true) → (encL t).length ≤ 13 * t.length
  | [], _ => by simp [encL]
  | c :: t, h => by
      have h1 := encC_length (h c (by simp))
      have h2 := encL_length t (fun x hx => h x (by simp [hx]))
      unfold encL at h2 ⊢
      rw [List.flatMap_cons, List.length_append, List.length_cons]
      omega
theorem encL_take {t : List C} {k : Nat} (h : k < t.length) : encL (t.take (k + 1)) = encL (t.take k) ++ encC t[k] := by
  unfold encL
  rw [List.take_succ_eq_append_getElem h, List.flatMap_append]
  simp
theorem by_mod (x : Int) : 0 ≤ x % 256 ∧ x % 256 ≤ 255 := by
  have h1 := Int.emod_nonneg x (show (256 : Int) ≠ 0 by omega)
  have h2 := Int.emod_lt_of_pos x (show (0 : Int) < 256 by omega)
  omega
theorem encC_by {c : C} (h : okC c = true) : ByL (encC c) := by
  have hp := okC_parts h
  unfold encC
  refine ByL.app (ByL.app (ByL.one (by omega)) (highs_by _ _)) ?_
  split
  · exact ByL.app (ByL.one (by omega)) (bytesL_by _)
  · exact ByL.nil
theorem encL_by {t : List C} (h : ∀ c ∈ t, okC c = true) : ByL (encL t) := fun x hx => by
  obtain ⟨c, hc, h'⟩ := List.mem_flatMap.1 hx
  exact encC_by (h c hc) x h'
theorem encT_by (t : List C) : ByL (encT t) := by
  unfold encT
  split
  · rename_i h
    have h1 := (trm_iff t).1 h
    exact ByL.app (ByL.one (by omega)) (encL_by h1.2.2.1)
  · exact ByL.nil
theorem encT_length (t : List C) : (encT t).length ≤ 521 := by
  unfold encT
  split
  · rename_i h
    have h1 := (trm_iff t).1 h
    have h2 := encL_length t h1.2.2.1
    simp
    omega
  · simp

/-- The run of an append of a text's bytes. -/
theorem app_str (w : World) (base : Nat) (v : Value) (z : List Int) (s : ByteArray) (hO : OwnY w base v z) (hb : base ≤ w.heap.size) (hz : z.length + s.size ≤ 4194304) :
    ∃ v' w', (Builtin.append_ #[22, 9] 22 #[v, .string s]).run Tryd.prog w = .ok v' w' ∧ OwnY w' base v' (z ++ bytesL s) ∧ w.grownBy w' v.ownBlock := by
  obtain ⟨i0, hi, hz0, hz1, hz2⟩ := info_parts Tryd.infoByte
  obtain ⟨v', w', hr, ho, hg, _⟩ := Go.Lib.run_append_own_string (P := Tryd.prog) w base 22 9 22 5 i0 Tryd.underlying22 Tryd.underlying9 hi hz0 hz1 hz2 v z.length (bys z) hO s (by unfold maxLen; omega) (by omega) hb
  refine ⟨v', w', hr, ?_, hg⟩
  unfold OwnY
  rw [List.length_append, bys_app, bytesL_length, ← strCells_bys]
  exact ho

/-- New bytes are owned. -/
theorem own_new (w : World) (base : Nat) (y : List Int) (cs : Array Value) (hcs : cs = (bys y).toArray) (n : Nat) (hn : n = y.length) (hb : base ≤ w.heap.size) (hl : y.length ≤ 4194304) :
    OwnY (w.alloc (.cells cs 5)) base (.slice (some ⟨w.heap.size, 0, none⟩) n n) y := by
  subst hcs hn
  refine ⟨by simp [bys], .inr ⟨w.heap.size, y.length, _, rfl, hb, heap_alloc_new w _, Nat.le_refl _, by unfold maxLen; omega, by simp [bys], ?_⟩⟩
  simp [bys, List.take_of_length_le]

end Go.Proofs.YtpfcjdabfmelaaaDoor

/- The words of a term's places: decimals, without memory. -/
namespace Go.Proofs.YtpfcjdabfmelaaaDoor
set_option linter.unusedVariables false
set_option linter.unusedSimpArgs false

theorem ba_ext {a b : ByteArray} (h : a.data = b.data) : a = b := by cases a; cases b; simp_all
theorem ba_mk (a b : Array UInt8) : (⟨a⟩ : ByteArray) ++ ⟨b⟩ = ⟨a ++ b⟩ := ba_ext (by simp [ByteArray.data_append])
/-- Decimals. -/
def decB (n : Nat) : ByteArray := ⟨(Go.Lib.decDigits n).toArray⟩
def numB (n : Int) : ByteArray := ⟨(Go.Lib.itoa n).toArray⟩
def xB : ByteArray := ⟨#[88]⟩
def mnB : ByteArray := ⟨#[45]⟩
/-- The word of a place, but for its arguments. -/
def wordB (c : C) : ByteArray := if c.k = 1 then xB ++ numB c.n else if c.k = 2 then numB c.n else c.s
theorem numB_pos {n : Int} (h : 0 ≤ n) : numB n = decB n.toNat := by
  unfold numB decB Go.Lib.itoa
  rw [if_neg (by omega)]
theorem numB_neg {n : Int} (h : n < 0) : numB n = mnB ++ decB (-n).toNat := by
  unfold numB decB Go.Lib.itoa mnB
  rw [if_pos h, ba_mk]
  refine ba_ext ?_
  rw [show n.natAbs = (-n).toNat by omega]
  simp
theorem decB_small {n : Nat} (h : n < 10) : decB n = ⟨#[UInt8.ofNat (48 + n)]⟩ := by
  unfold decB
  rw [Go.Lib.decDigits, dif_pos h]
theorem decB_step {n : Nat} (h : ¬ n < 10) : decB n = decB (n / 10) ++ ⟨#[UInt8.ofNat (48 + n % 10)]⟩ := by
  unfold decB
  rw [Go.Lib.decDigits, dif_neg h, ba_mk]
  refine ba_ext ?_
  simp
theorem one_size (x : UInt8) : (⟨#[x]⟩ : ByteArray).size = 1 := rfl
theorem decB_size : ∀ (k n : Nat), n < 10 ^ (k + 1) → (decB n).size ≤ k + 1
  | 0, n, h => by
      rw [decB_small (by simpa using h), one_size]
      exact Nat.le_refl _
  | k + 1, n, h => by
      by_cases hs : n < 10
      · rw [decB_small hs, one_size]
        omega
      · rw [decB_step hs, ByteArray.size_append, one_size]
        have := decB_size k (n / 10) (by rw [Nat.pow_succ] at h; omega)
        omega
theorem wordB_size {c : C} (h : okC c = true) : (wordB c).size ≤ 8 := by
  obtain ⟨_, h1, h2, hp⟩ := okC_parts h
  have hd : (numB c.n).size ≤ 6 := by
    by_cases h0 : c.n < 0
    · rw [numB_neg h0, ByteArray.size_append]
      have := decB_size 4 (-c.n).toNat (by rw [show 10 ^ (4 + 1) = 100000 from rfl]; omega)
      have e : mnB.size = 1 := rfl
      omega
    · rw [numB_pos (by omega)]
      have := decB_size 4 c.n.toNat (by rw [show 10 ^ (4 + 1) = 100000 from rfl]; omega)
      omega
  unfold wordB
  split
  · rw [ByteArray.size_append]
    have e : xB.size = 1 := rfl
    omega
  · split
    · omega
    · exact hp
end Go.Proofs.YtpfcjdabfmelaaaDoor
