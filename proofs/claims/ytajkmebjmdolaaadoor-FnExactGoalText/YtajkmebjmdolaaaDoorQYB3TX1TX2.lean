import Derived.Test.YtajkmebjmdolaaaDoorQYW1YB1YB2
import Derived.Test.YtajkmebjmdolaaaDoorQW2W3
import Derived.Test.YtajkmebjmdolaaaDoorQW4Plain2G1
import Derived.Test.YtajkmebjmdolaaaDoorQW10W13SB1
import Derived.Lib.AppendStr
import Derived.BigQuiet
import Derived.Deep.RegionWith
import Derived.Test.YtajkmebjmdolaaaDoorQPX1Mem2Mem3
import Derived.Lib.ItoaNum
/- A term in bytes, by lists; the specification's TrmBytes. -/
namespace Go.Proofs.YtajkmebjmdolaaaDoor
open Go.RowKit
set_option linter.unusedVariables false
set_option linter.unusedSimpArgs false
attribute [-go_sem] Go.Builtin.append_

/-- A text's bytes. -/
def bytesL (s : ByteArray) : List Int := s.data.toList.map fun b => (b.toNat : Int)
theorem bytesL_length (s : ByteArray) : (bytesL s).length = s.size := by simp [bytesL]
theorem bytesL_by (s : ByteArray) : ByL (bytesL s) := fun x hx => by
  obtain ⟨b, _, rfl⟩ := List.mem_map.1 hx
  have := b.toNat_lt
  omega
theorem strCells_bys (s : ByteArray) : Go.Lib.strCells s = bys (bytesL s) := by
  simp [Go.Lib.strCells, bys, bytesL]

/-- A place in bytes. -/
def encC (c : C) : List Int := [c.k] ++ num3 c.n ++ if c.k = 3 then [(c.s.size : Int)] ++ bytesL c.s else []
def encL (t : List C) : List Int := t.flatMap encC
/-- A term in bytes; none, if it is none. -/
def encT (t : List C) : List Int := if trm t then [(t.length : Int)] ++ encL t else []

theorem num3_length (n : Int) : (num3 n).length = 3 := by simp [num3, highs]
theorem okC_parts {c : C} (h : okC c = true) : (c.k = 1 ∨ c.k = 2 ∨ c.k = 3) ∧ -9999 ≤ c.n ∧ c.n ≤ 99999 ∧ c.s.size ≤ 8 := by
  by_cases h1 : c.k = 1
  · have := (okC1 h1).1 h
    omega
  by_cases h2 : c.k = 2
  · have := (okC2 h2).1 h
    omega
  by_cases h3 : c.k = 3
  · have := (okC3 h3).1 h
    have h4 := this.2.2
    unfold nameB at h4
    simp only [Bool.and_eq_true, decide_eq_true_eq] at h4
    omega
  · rw [okC4 h1 h2 h3] at h
    cases h
theorem encC_length {c : C} (h : okC c = true) : (encC c).length ≤ 13 := by
  have := okC_parts h
  unfold encC
  rw [List.length_append, List.length_append, num3_length]
  split
  · rw [List.length_append, bytesL_length]
    simp
    omega
  · simp
theorem encL_length : ∀ (t : List C), (∀ c ∈ t, okC c = true) → (encL t).length ≤ 13 * t.length
  | [], _ => by simp [encL]
  | c :: t, h => by
      have h1 := encC_length (h c (by simp))
      have h2 := encL_length t (fun x hx => h x (by simp [hx]))
      unfold encL at h2 ⊢
      rw [List.flatMap_cons, List.length_append, List.length_cons]
      omega
theorem encL_take {t : List C} {k : Nat} (h : k < t.length) : encL (t.take (k + 1)) = encL (t.take k) ++ encC t[k] := by
  unfold encL
  rw [List.take_succ_eq_append_getElem h, List.flatMap_append]
  simp
theorem by_mod (x : Int) : 0 ≤ x % 256 ∧ x % 256 ≤ 255 := by
  have h1 := Int.emod_nonneg x (show (256 : Int) ≠ 0 by omega)
  have h2 := Int.emod_lt_of_pos x (show (0 : Int) < 256 by omega)
  omega
theorem encC_by {c : C} (h : okC c = true) : ByL (encC c) := by
  have hp := okC_parts h
  unfold encC
  refine ByL.app (ByL.app (ByL.one (by omega)) (highs_by _ _)) ?_
  split
  · exact ByL.app (ByL.one (by omega)) (bytesL_by _)
  · exact ByL.nil
theorem encL_by {t : List C} (h : ∀ c ∈ t, okC c = true) : ByL (encL t) := fun x hx => by
  obtain ⟨c, hc, h'⟩ := List.mem_flatMap.1 hx
  exact encC_by (h c hc) x h'
theorem encT_by (t : List C) : ByL (encT t) := by
  unfold encT
  split
  · rename_i h
    have h1 := (trm_iff t).1 h
    exact ByL.app (ByL.one (by omega)) (encL_by h1.2.2.1)
  · exact ByL.nil
theorem encT_length (t : List C) : (encT t).length ≤ 521 := by
  unfold encT
  split
  · rename_i h
    have h1 := (trm_iff t).1 h
    have h2 := encL_length t h1.2.2.1
    simp
    omega
  · simp

/-- The run of an append of a text's bytes. -/
theorem app_str (w : World) (base : Nat) (v : Value) (z : List Int) (s : ByteArray) (hO : OwnY w base v z) (hb : base ≤ w.heap.size) (hz : z.length + s.size ≤ 4194304) :
    ∃ v' w', (Builtin.append_ #[100, 9] 100 #[v, .string s]).run Tryd.prog w = .ok v' w' ∧ OwnY w' base v' (z ++ bytesL s) ∧ w.grownBy w' v.ownBlock := by
  obtain ⟨i0, hi, hz0, hz1, hz2⟩ := info_parts Tryd.infoByte
  obtain ⟨v', w', hr, ho, hg, _⟩ := Go.Lib.run_append_own_string (P := Tryd.prog) w base 100 9 100 5 i0 Tryd.underlying100 Tryd.underlying9 hi hz0 hz1 hz2 v z.length (bys z) hO s (by unfold maxLen; omega) (by omega) hb
  refine ⟨v', w', hr, ?_, hg⟩
  unfold OwnY
  rw [List.length_append, bys_app, bytesL_length, ← strCells_bys]
  exact ho

/-- New bytes are owned. -/
theorem own_new (w : World) (base : Nat) (y : List Int) (cs : Array Value) (hcs : cs = (bys y).toArray) (n : Nat) (hn : n = y.length) (hb : base ≤ w.heap.size) (hl : y.length ≤ 4194304) :
    OwnY (w.alloc (.cells cs 5)) base (.slice (some ⟨w.heap.size, 0, none⟩) n n) y := by
  subst hcs hn
  refine ⟨by simp [bys], .inr ⟨w.heap.size, y.length, _, rfl, hb, heap_alloc_new w _, Nat.le_refl _, by unfold maxLen; omega, by simp [bys], ?_⟩⟩
  simp [bys, List.take_of_length_le]

end Go.Proofs.YtajkmebjmdolaaaDoor

/- The words of a term's places: decimals, without memory. -/
namespace Go.Proofs.YtajkmebjmdolaaaDoor
set_option linter.unusedVariables false
set_option linter.unusedSimpArgs false

theorem ba_ext {a b : ByteArray} (h : a.data = b.data) : a = b := by cases a; cases b; simp_all
theorem ba_mk (a b : Array UInt8) : (⟨a⟩ : ByteArray) ++ ⟨b⟩ = ⟨a ++ b⟩ := ba_ext (by simp [ByteArray.data_append])
/-- Decimals. -/
def decB (n : Nat) : ByteArray := ⟨(Go.Lib.decDigits n).toArray⟩
def numB (n : Int) : ByteArray := ⟨(Go.Lib.itoa n).toArray⟩
def xB : ByteArray := ⟨#[88]⟩
def mnB : ByteArray := ⟨#[45]⟩
/-- The word of a place, but for its arguments. -/
def wordB (c : C) : ByteArray := if c.k = 1 then xB ++ numB c.n else if c.k = 2 then numB c.n else c.s
theorem numB_pos {n : Int} (h : 0 ≤ n) : numB n = decB n.toNat := by
  unfold numB decB Go.Lib.itoa
  rw [if_neg (by omega)]
theorem numB_neg {n : Int} (h : n < 0) : numB n = mnB ++ decB (-n).toNat := by
  unfold numB decB Go.Lib.itoa mnB
  rw [if_pos h, ba_mk]
  refine ba_ext ?_
  rw [show n.natAbs = (-n).toNat by omega]
  simp
theorem decB_small {n : Nat} (h : n < 10) : decB n = ⟨#[UInt8.ofNat (48 + n)]⟩ := by
  unfold decB
  rw [Go.Lib.decDigits, dif_pos h]
theorem decB_step {n : Nat} (h : ¬ n < 10) : decB n = decB (n / 10) ++ ⟨#[UInt8.ofNat (48 + n % 10)]⟩ := by
  unfold decB
  rw [Go.Lib.decDigits, dif_neg h, ba_mk]
  refine ba_ext ?_
  simp
theorem one_size (x : UInt8) : (⟨#[x]⟩ : ByteArray).size = 1 := rfl
theorem decB_size : ∀ (k n : Nat), n < 10 ^ (k + 1) → (decB n).size ≤ k + 1
  | 0, n, h => by
      rw [decB_small (by simpa using h), one_size]
      exact Nat.le_refl _
  | k + 1, n, h => by
      by_cases hs : n < 10
      · rw [decB_small hs, one_size]
        omega
      · rw [decB_step hs, ByteArray.size_append, one_size]
        have := decB_size k (n / 10) (by rw [Nat.pow_succ] at h; omega)
        omega
theorem wordB_size {c : C} (h : okC c = true) : (wordB c).size ≤ 8 := by
  obtain ⟨_, h1, h2, hp⟩ := okC_parts h
  have hd : (numB c.n).size ≤ 6 := by
    by_cases h0 : c.n < 0
    · rw [numB_neg h0, ByteArray.size_append]
      have := decB_size 4 (-c.n).toNat (by rw [show 10 ^ (4 + 1) = 100000 from rfl]; omega)
      have e : mnB.size = 1 := rfl
      omega
    · rw [numB_pos (by omega)]
      have := decB_size 4 c.n.toNat (by rw [show 10 ^ (4 + 1) = 100000 from rfl]; omega)
      omega
  unfold wordB
  split
  · rw [ByteArray.size_append]
    have e : xB.size = 1 := rfl
    omega
  · split
    · omega
    · exact hp
end Go.Proofs.YtajkmebjmdolaaaDoor

/- The specification: decimals, words. -/
namespace Go.Proofs.YtajkmebjmdolaaaDoor
open Go.RowKit
set_option linter.unusedVariables false
set_option linter.unusedSimpArgs false

set_option maxRecDepth 100000 in
set_option maxHeartbeats 1000000 in
theorem l1Plain_any (n : Nat) (w : World) (hn : n < 100000) :
    Calls Tryd.prog 47 #[.int .i64 n] w fun e w' => e = .returned (.string (decB n)) ∧ Below w.heap.size w w' := by
  go_enter Tryd.func47, Tryd.ntmps47
  go_wp2
  go_loopw [0, 3] (fun nv ov wr => ∃ (m : Nat) (acc : ByteArray), nv = .int .i64 m ∧ ov = .string acc ∧ decB n = decB m ++ acc ∧ m ≤ n ∧ Below w.heap.size w wr) (fun nv _ _ => (intOf nv).toNat)
  case atStart => exact ⟨n, ByteArray.empty, rfl, rfl, by simp, Nat.le_refl _, Below.refl _ _⟩
  case round =>
    obtain ⟨m, acc, rfl, rfl, hd, hm, hB⟩ := hrel
    by_cases h9 : 9 < m
    · have HB := hide (bstep hB (cell_below wr (.cells #[.int .u8 (48 + (m : Int) % 10)] 5)))
      have HD := hide (show decB n = decB (m / 10) ++ (⟨#[UInt8.ofNat (48 + m % 10)]⟩ ++ acc) from by rw [hd, decB_step (by omega), ByteArray.append_assoc])
      have hc := conv1 wr (48 + (m : Int) % 10)
      rw [show (48 + (m : Int) % 10).toNat = 48 + m % 10 by omega] at hc
      have hsz := congrArg ByteArray.size hd
      rw [ByteArray.size_append] at hsz
      have hd5 := decB_size 4 n (by rw [show 10 ^ (4 + 1) = 100000 from rfl]; omega)
      obtain ⟨d, hdd⟩ : ∃ d : ByteArray, d = ⟨#[UInt8.ofNat (48 + m % 10)]⟩ := ⟨_, rfl⟩
      have hd1 : d.size = 1 := by rw [hdd]; rfl
      have hcat : ¬ (d.size + acc.size > 9223372036854775807) := by omega
      rw [← hdd] at hc HD
      clear hd hB hsz hd5 hdd hd1
      go_wp2
      go_roundw
      case rel => exact ⟨m / 10, d ++ acc, by go_num, rfl, unhide HD, by omega, unhide HB⟩
      case measure => simp [intOf]; omega
    · have HB := hide (bstep hB (cell_below wr (.cells #[.int .u8 (48 + (m : Int))] 5)))
      have HD := hide (show decB n = ⟨#[UInt8.ofNat (48 + m)]⟩ ++ acc from by rw [hd, decB_small (by omega)])
      have hc := conv1 wr (48 + (m : Int))
      rw [show (48 + (m : Int)).toNat = 48 + m by omega] at hc
      have hm9 : (m : Int) ≤ 9 := by omega
      have hsz := congrArg ByteArray.size hd
      rw [ByteArray.size_append] at hsz
      have hd5 := decB_size 4 n (by rw [show 10 ^ (4 + 1) = 100000 from rfl]; omega)
      obtain ⟨d, hdd⟩ : ∃ d : ByteArray, d = ⟨#[UInt8.ofNat (48 + m)]⟩ := ⟨_, rfl⟩
      have hd1 : d.size = 1 := by rw [hdd]; rfl
      have hcat : ¬ (d.size + acc.size > 9223372036854775807) := by omega
      rw [← hdd] at hc HD
      clear hd hB hsz hd5 hdd hd1
      go_wp2
      go_ret
      exact ⟨by rw [unhide HD]; rfl, unhide HB⟩

set_option maxRecDepth 100000 in
set_option maxHeartbeats 1000000 in
theorem l1Word_any (c : C) (w : World) (h : okC c = true) :
    Calls Tryd.prog 32 #[.agg #[.int .i64 c.k, .int .i64 c.n, .string c.s]] w fun e w' => e = .returned (.string (wordB c)) ∧ Below w.heap.size w w' := by
  obtain ⟨k, n, s⟩ := c
  obtain ⟨hk, h1, h2, _⟩ := okC_parts h
  simp only at hk h1 h2 ⊢
  have hv : k = 1 → 0 ≤ n := by
    rintro rfl
    simp [okC] at h
    exact h.1.1
  clear h
  have hX := heap_alloc_new w (.cells #[.int .i64 k, .int .i64 n, .string s] 57)
  obtain ⟨W, hW⟩ : ∃ W, W = w.alloc (.cells #[.int .i64 k, .int .i64 n, .string s] 57) := ⟨_, rfl⟩
  have hB0 : Below w.heap.size w W := by rw [hW]; exact cell_below _ _
  rw [← hW] at hX
  have c0 : W.cell? ⟨w.heap.size, 0, none⟩ = some (.int .i64 k) := by simp only [World.cell?]; rw [hX]; rfl
  have c1 : W.cell? ⟨w.heap.size, 1, none⟩ = some (.int .i64 n) := by simp only [World.cell?]; rw [hX]; rfl
  have c2 : W.cell? ⟨w.heap.size, 2, none⟩ = some (.string s) := by simp only [World.cell?]; rw [hX]; rfl
  clear hX
  have hv := hv
  rcases hk with rfl | rfl | rfl
  · have e1 : wordB ⟨1, n, s⟩ = xB ++ numB n := rfl
    have h0 : 0 ≤ n := hv rfl
    obtain ⟨m, rfl⟩ := Int.eq_ofNat_of_zero_le h0
    have HP := hide (l1Plain_any m W (by omega))
    have HE := hide (show wordB ⟨1, (m : Int), s⟩ = xB ++ decB m from by rw [e1, numB_pos (by omega)]; rfl)
    have hd5 := decB_size 4 m (by rw [show 10 ^ (4 + 1) = 100000 from rfl]; omega)
    obtain ⟨d, hdd⟩ : ∃ d, d = decB m := ⟨_, rfl⟩
    rw [← hdd] at HP HE hd5
    have hcat : ¬ (({ data := #[88] } : ByteArray).size + d.size > 9223372036854775807) := by have : ({ data := #[88] } : ByteArray).size = 1 := rfl; omega
    clear e1 c0 c1 c2 hd5 hdd
    subst hW
    go_enter Tryd.func32, Tryd.ntmps32
    go_wp2_with fail
    refine (unhide HP).mono ?_
    rintro e w1 ⟨rfl, hb1⟩
    have hB1 := bstep hB0 hb1
    go_wp2
    go_ret
    exact ⟨by rw [unhide HE]; rfl, hB1⟩
  · have e1 : wordB ⟨2, n, s⟩ = numB n := rfl
    by_cases h0 : n < 0
    · have HP := hide (l1Plain_any (-n).toNat W (by omega))
      rw [show (((-n).toNat : Nat) : Int) = -n by omega] at HP
      have HE := hide (show wordB ⟨2, n, s⟩ = mnB ++ decB (-n).toNat from by rw [e1, numB_neg h0])
      have hd5 := decB_size 4 (-n).toNat (by rw [show 10 ^ (4 + 1) = 100000 from rfl]; omega)
      obtain ⟨d, hdd⟩ : ∃ d, d = decB (-n).toNat := ⟨_, rfl⟩
      rw [← hdd] at HP HE hd5
      have hcat : ¬ (({ data := #[45] } : ByteArray).size + d.size > 9223372036854775807) := by have : ({ data := #[45] } : ByteArray).size = 1 := rfl; omega
      clear e1 c0 c1 c2 hd5 hdd
      subst hW
      go_enter Tryd.func32, Tryd.ntmps32
      go_wp2_with fail
      refine (unhide HP).mono ?_
      rintro e w1 ⟨rfl, hb1⟩
      have hB1 := bstep hB0 hb1
      go_wp2
      go_ret
      exact ⟨by rw [unhide HE]; rfl, hB1⟩
    · obtain ⟨m, rfl⟩ := Int.eq_ofNat_of_zero_le (show 0 ≤ n by omega)
      have HP := hide (l1Plain_any m W (by omega))
      have HE := hide (show wordB ⟨2, (m : Int), s⟩ = decB m from by rw [e1, numB_pos (by omega)]; rfl)
      clear e1 c0 c1 c2
      subst hW
      go_enter Tryd.func32, Tryd.ntmps32
      go_wp2_with fail
      refine (unhide HP).mono ?_
      rintro e w1 ⟨rfl, hb1⟩
      have hB1 := bstep hB0 hb1
      go_wp2
      go_ret
      exact ⟨by rw [unhide HE]; rfl, hB1⟩
  · have HE := hide (show wordB ⟨3, n, s⟩ = s from rfl)
    clear c0 c1 c2
    subst hW
    go_enter Tryd.func32, Tryd.ntmps32
    go_wp2
    go_ret
    exact ⟨by rw [unhide HE]; rfl, hB0⟩
end Go.Proofs.YtajkmebjmdolaaaDoor
