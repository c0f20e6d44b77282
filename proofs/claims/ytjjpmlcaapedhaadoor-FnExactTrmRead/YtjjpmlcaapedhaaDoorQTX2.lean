/- The specification: decimals, words. -/
import Derived.Test.YtjjpmlcaapedhaaDoorQTX1TX4
import Derived.Test.YtjjpmlcaapedhaaDoorQW10
namespace Go.Proofs.YtjjpmlcaapedhaaDoor
open Go.RowKit
set_option linter.unusedVariables false
set_option linter.unusedSimpArgs false

set_option maxRecDepth 100000 in
set_option maxHeartbeats 1000000 in
theorem l1Plain_any (n : Nat) (w : World) (hn : n < 100000) :
    Calls Tryd.prog 47 #[.int .i64 n] w fun e w' => e = .returned (.string (decB n)) ∧ Below w.heap.size w w' := by
  go_enter Tryd.func47, Tryd.ntmps47
  go_wp2
  go_loopw [0, 3] (fun nv ov wr => ∃ (m : Nat) (acc : ByteArray), nv = .int .i64 m ∧ ov = .string acc ∧ decB n = decB m ++ acc ∧ m ≤ n ∧ Below w.heap.size w wr) (fun nv _ _ => (intOf nv).toNat)
  case atStart => exact ⟨n, ByteArray.empty, rfl, rfl, by simp, Nat.le_refl _, Below.refl _ _⟩
  case round =>
    obtain ⟨m, acc, rfl, rfl, hd, hm, hB⟩ := hrel
    by_cases h9 : 9 < m
    · have HB := hide (bstep hB (cell_below wr (.cells #[.int .u8 (48 + (m : Int) % 10)] 5)))
      have HD := hide (show decB n = decB (m / 10) ++ (⟨#[UInt8.ofNat (48 + m % 10)]⟩ ++ acc) from by rw [hd, decB_step (by omega), ByteArray.append_assoc])
      have hc := conv1 wr (48 + (m : Int) % 10)
      rw [show (48 + (m : Int) % 10).toNat = 48 + m % 10 by omega] at hc
      have hsz := congrArg ByteArray.size hd
      rw [ByteArray.size_append] at hsz
      have hd5 := decB_size 4 n (by rw [show 10 ^ (4 + 1) = 100000 from rfl]; omega)
      obtain ⟨d, hdd⟩ : ∃ d : ByteArray, d = ⟨#[UInt8.ofNat (48 + m % 10)]⟩ := ⟨_, rfl⟩
      have hd1 : d.size = 1 := by rw [hdd]; rfl
      have hcat : ¬ (d.size + acc.size > 9223372036854775807) := by omega
      rw [← hdd] at hc HD
      clear hd hB hsz hd5 hdd hd1
      go_wp2
      go_roundw
      case rel => exact ⟨m / 10, d ++ acc, by go_num, rfl, unhide HD, by omega, unhide HB⟩
      case measure => simp [intOf]; omega
    · have HB := hide (bstep hB (cell_below wr (.cells #[.int .u8 (48 + (m : Int))] 5)))
      have HD := hide (show decB n = ⟨#[UInt8.ofNat (48 + m)]⟩ ++ acc from by rw [hd, decB_small (by omega)])
      have hc := conv1 wr (48 + (m : Int))
      rw [show (48 + (m : Int)).toNat = 48 + m by omega] at hc
      have hm9 : (m : Int) ≤ 9 := by omega
      have hsz := congrArg ByteArray.size hd
      rw [ByteArray.size_append] at hsz
      have hd5 := decB_size 4 n (by rw [show 10 ^ (4 + 1) = 100000 from rfl]; omega)
      obtain ⟨d, hdd⟩ : ∃ d : ByteArray, d = ⟨#[UInt8.ofNat (48 + m)]⟩ := ⟨_, rfl⟩
      have hd1 : d.size = 1 := by rw [hdd]; rfl
      have hcat : ¬ (d.size + acc.size > 9223372036854775807) := by omega
      rw [← hdd] at hc HD
      clear hd hB hsz hd5 hdd hd1
      go_wp2
      go_ret
      exact ⟨by rw [unhide HD]; rfl, unhide HB⟩

set_option maxRecDepth 100000 in
set_option maxHeartbeats 1000000 in
theorem l1Word_any (c : C) (w : World) (h : okC c = true) :
    Calls Tryd.prog 27 #[.agg #[.int .i64 c.k, .int .i64 c.n, .string c.s]] w fun e w' => e = .returned (.string (wordB c)) ∧ Below w.heap.size w w' := by
  obtain ⟨k, n, s⟩ := c
  obtain ⟨hk, h1, h2, _⟩ := okC_parts h
  simp only at hk h1 h2 ⊢
  have hv : k = 1 → 0 ≤ n := by
    rintro rfl
    simp [okC] at h
    exact h.1.1
  clear h
  have hX := heap_alloc_new w (.cells #[.int .i64 k, .int .i64 n, .string s] 49)
  obtain ⟨W, hW⟩ : ∃ W, W = w.alloc (.cells #[.int .i64 k, .int .i64 n, .string s] 49) := ⟨_, rfl⟩
  have hB0 : Below w.heap.size w W := by rw [hW]; exact cell_below _ _
  rw [← hW] at hX
  have c0 : W.cell? ⟨w.heap.size, 0, none⟩ = some (.int .i64 k) := by simp only [World.cell?]; rw [hX]; rfl
  have c1 : W.cell? ⟨w.heap.size, 1, none⟩ = some (.int .i64 n) := by simp only [World.cell?]; rw [hX]; rfl
  have c2 : W.cell? ⟨w.heap.size, 2, none⟩ = some (.string s) := by simp only [World.cell?]; rw [hX]; rfl
  clear hX
  have hv := hv
  rcases hk with rfl | rfl | rfl
  · have e1 : wordB ⟨1, n, s⟩ = xB ++ numB n := rfl
    have h0 : 0 ≤ n := hv rfl
    obtain ⟨m, rfl⟩ := Int.eq_ofNat_of_zero_le h0
    have HP := hide (l1Plain_any m W (by omega))
    have HE := hide (show wordB ⟨1, (m : Int), s⟩ = xB ++ decB m from by rw [e1, numB_pos (by omega)]; rfl)
    have hd5 := decB_size 4 m (by rw [show 10 ^ (4 + 1) = 100000 from rfl]; omega)
    obtain ⟨d, hdd⟩ : ∃ d, d = decB m := ⟨_, rfl⟩
    rw [← hdd] at HP HE hd5
    have hcat : ¬ (({ data := #[88] } : ByteArray).size + d.size > 9223372036854775807) := by have : ({ data := #[88] } : ByteArray).size = 1 := rfl; omega
    clear e1 c0 c1 c2 hd5 hdd
    subst hW
    go_enter Tryd.func27, Tryd.ntmps27
    go_wp2_with fail
    refine (unhide HP).mono ?_
    rintro e w1 ⟨rfl, hb1⟩
    have hB1 := bstep hB0 hb1
    go_wp2
    go_ret
    exact ⟨by rw [unhide HE]; rfl, hB1⟩
  · have e1 : wordB ⟨2, n, s⟩ = numB n := rfl
    by_cases h0 : n < 0
    · have HP := hide (l1Plain_any (-n).toNat W (by omega))
      rw [show (((-n).toNat : Nat) : Int) = -n by omega] at HP
      have HE := hide (show wordB ⟨2, n, s⟩ = mnB ++ decB (-n).toNat from by rw [e1, numB_neg h0])
      have hd5 := decB_size 4 (-n).toNat (by rw [show 10 ^ (4 + 1) = 100000 from rfl]; omega)
      obtain ⟨d, hdd⟩ : ∃ d, d = decB (-n).toNat := ⟨_, rfl⟩
      rw [← hdd] at HP HE hd5
      have hcat : ¬ (({ data := #[45] } : ByteArray).size + d.size > 9223372036854775807) := by have : ({ data := #[45] } : ByteArray).size = 1 := rfl; omega
      clear e1 c0 c1 c2 hd5 hdd
      subst hW
      go_enter Tryd.func27, Tryd.ntmps27
      go_wp2_with fail
      refine (unhide HP).mono ?_
      rintro e w1 ⟨rfl, hb1⟩
      have hB1 := bstep hB0 hb1
      go_wp2
      go_ret
      exact ⟨by rw [unhide HE]; rfl, hB1⟩
    · obtain ⟨m, rfl⟩ := Int.eq_ofNat_of_zero_le (show 0 ≤ n by omega)
      have HP := hide (l1Plain_any m W (by omega))
      have HE := hide (show wordB ⟨2, (m : Int), s⟩ = decB m from by rw [e1, numB_pos (by omega)]; rfl)
      clear e1 c0 c1 c2
      subst hW
      go_enter Tryd.func27, Tryd.ntmps27
      go_wp2_with fail
      refine (unhide HP).mono ?_
      rintro e w1 ⟨rfl, hb1⟩
      have hB1 := bstep hB0 hb1
      go_wp2
      go_ret
      exact ⟨by rw [unhide HE]; rfl, hB1⟩
  · have HE := hide (show wordB ⟨3, n, s⟩ = s from rfl)
    clear c0 c1 c2
    subst hW
    go_enter Tryd.func27, Tryd.ntmps27
    go_wp2
    go_ret
    exact ⟨by rw [unhide HE]; rfl, hB0⟩
end Go.Proofs.YtjjpmlcaapedhaaDoor
