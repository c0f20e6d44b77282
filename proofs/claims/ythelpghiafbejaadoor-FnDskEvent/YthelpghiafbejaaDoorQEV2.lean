/- The specification writes what happens as a line. -/
import Derived.Test.YthelpghiafbejaaDoorQEV1
import Derived.Test.YthelpghiafbejaaDoorQEV4TX2
import Derived.Deep.RegionHeld3
import Derived.Deep.CutRange
import Derived.Deep.RegionWith
namespace Go.Proofs.YthelpghiafbejaaDoor
open Go.RowKit
set_option linter.unusedVariables false
set_option linter.unusedSimpArgs false

def blB : ByteArray := { data := #[32] }
theorem text1 : mkS (evText 1 0 0 0) = mkS (evName 1) := rfl
theorem text6 (a p v : Nat) : mkS (evText 6 a p v) = mkS (evName 6) ++ blB ++ decB a ++ blB ++ decB p ++ blB ++ decB v := by
  have e : evText 6 a p v = evName 6 ++ [32] ++ Go.Lib.decDigits a ++ [32] ++ Go.Lib.decDigits p ++ [32] ++ Go.Lib.decDigits v := by
    unfold evText
    rw [if_neg (by decide), if_pos rfl]
    simp
  rw [e, mkS_app, mkS_app, mkS_app, mkS_app, mkS_app, mkS_app]
  rfl
theorem text2 {k : Nat} (h1 : k ≠ 1) (h6 : k ≠ 6) (a p v : Nat) : mkS (evText k a p v) = mkS (evName k) ++ blB ++ decB a := by
  have e : evText k a p v = evName k ++ [32] ++ Go.Lib.decDigits a := by
    unfold evText
    rw [if_neg h1, if_neg h6]
    simp
  rw [e, mkS_app, mkS_app]
  rfl
theorem box4 (w : World) (x0 x1 x2 x3 : Value) (T : TypeId) :
    (w.alloc (.cells #[x0, x1, x2, x3] T)).cell? ⟨w.heap.size, 0, none⟩ = some x0 ∧ (w.alloc (.cells #[x0, x1, x2, x3] T)).cell? ⟨w.heap.size, 1, none⟩ = some x1 ∧ (w.alloc (.cells #[x0, x1, x2, x3] T)).cell? ⟨w.heap.size, 2, none⟩ = some x2 ∧ (w.alloc (.cells #[x0, x1, x2, x3] T)).cell? ⟨w.heap.size, 3, none⟩ = some x3 := by
  refine ⟨?_, ?_, ?_, ?_⟩ <;> rw [World.cell?_alloc_at _ _ _ _ rfl] <;> rfl

theorem evName_at (k : Nat) (hk : k < 9) (h : k < evNames.length) : evNames[k] = evName k := by
  unfold evName
  rw [List.getElem?_eq_getElem h]
  rfl
theorem evName_size {k : Nat} (hk : k < 9) : (mkS (evName k)).size ≤ 5 := by
  have : k = 0 ∨ k = 1 ∨ k = 2 ∨ k = 3 ∨ k = 4 ∨ k = 5 ∨ k = 6 ∨ k = 7 ∨ k = 8 := by omega
  rcases this with rfl | rfl | rfl | rfl | rfl | rfl | rfl | rfl | rfl <;> decide

set_option maxRecDepth 100000 in
set_option maxHeartbeats 4000000 in
theorem l9Text_any (k a p v : Nat) (hk : k < 9) (ha : a < 100000) (hp : p < 100000) (hv : v < 100000) (w : World) :
    Calls Tryd.prog 13 #[.agg #[.int .i64 k, .int .i64 a, .int .i64 p, .int .i64 v]] w fun e w' => e = .returned (.string (mkS (evText k a p v))) ∧ Below w.heap.size w w' := by
  obtain ⟨d0, d1, d2, d3⟩ := box4 w (.int .i64 k) (.int .i64 a) (.int .i64 p) (.int .i64 v) 23
  have hb0 : Below w.heap.size w (w.alloc (.cells #[.int .i64 k, .int .i64 a, .int .i64 p, .int .i64 v] 23)) := cell_below _ _
  have hsa := decB_size 4 a (by simpa using ha)
  have hsp := decB_size 4 p (by simpa using hp)
  have hsv := decB_size 4 v (by simpa using hv)
  have hsk := evName_size hk
  have hke : k < evNames.length := by simp [evNames]; omega
  have hnm := evName_at k hk hke
  go_enter Tryd.func13, Tryd.ntmps13
  go_upto_region 1 with fail
  generalize w.alloc (.cells #[.int .i64 k, .int .i64 a, .int .i64 p, .int .i64 v] 23) = W at hb0 d0 d1 d2 d3 ⊢
  have hl : w.heap.size < W.heap.size := World.block_lt_of_cell? W ⟨_, _, none⟩ d0
  have hBd := hb0.drew
  have hld : w.heap.size < W.drew.heap.size := hl
  go_region_with (first
    | (go_at_call 22; refine (l9Names_any W.drew).mono ?_; rintro e w1 ⟨rfl, hA, hb1⟩; have c0 := (hb1.cell (p := ⟨w.heap.size, 0, none⟩) hld).trans d0; have c1 := (hb1.cell (p := ⟨w.heap.size, 1, none⟩) hld).trans d1; have c2 := (hb1.cell (p := ⟨w.heap.size, 2, none⟩) hld).trans d2; have c3 := (hb1.cell (p := ⟨w.heap.size, 3, none⟩) hld).trans d3; have hB1 := bstep hBd hb1; have cn : w1.cell? ⟨W.heap.size, k, none⟩ = some (.string (mkS (evName k))) := (by have q := hA k hke; rw [Nat.zero_add, hnm] at q; exact q); have hk9 : (k : Int) < 9 := (by omega); have hl1 : w.heap.size < w1.heap.size := World.block_lt_of_cell? w1 ⟨_, _, none⟩ c0; clear hA hb1))
  all_goals
    by_cases k1 : k = 1
    · subst k1
      have HT := hide (show mkS (evText 1 a p v) = mkS (evName 1) from rfl)
      have HB := hide hB1
      clear hB1 hb0 hBd hnm hke
      generalize mkS (evName 1) = nb at *
      go_wp2
      go_ret
      exact ⟨by rw [unhide HT]; rfl, unhide HB⟩
    · have k1b : ((k : Int) == 1) = false := beq_eq_false_iff_ne.2 (by omega)
      by_cases k6 : k = 6
      · have k6b : ((k : Int) == 6) = true := by subst k6; rfl
        have HT := hide (show mkS (evText k a p v) = mkS (evName k) ++ blB ++ decB a ++ blB ++ decB p ++ blB ++ decB v from by subst k6; exact text6 a p v)
        have HA := hide (fun (W : World) => l1Plain_any a W ha)
        have HP := hide (fun (W : World) => l1Plain_any p W hp)
        have HV := hide (fun (W : World) => l1Plain_any v W hv)
        generalize decB a = da at HA hsa HT
        generalize decB p = dp at HP hsp HT
        generalize decB v = dv at HV hsv HT
        clear hnm hke hb0 hBd d0 d1 d2 d3 hl hld k6 k1 ha hp hv
        generalize mkS (evName k) = nb at *
        have z1 : ¬ (nb.size + 1 > 9223372036854775807) := by omega
        have z2 : ¬ (nb.size + 1 + da.size > 9223372036854775807) := by omega
        have z3 : ¬ (nb.size + 1 + da.size + 1 > 9223372036854775807) := by omega
        have z4 : ¬ (nb.size + 1 + da.size + 1 + dp.size > 9223372036854775807) := by omega
        have z5 : ¬ (nb.size + 1 + da.size + 1 + dp.size + 1 > 9223372036854775807) := by omega
        have z6 : ¬ (nb.size + 1 + da.size + 1 + dp.size + 1 + dv.size > 9223372036854775807) := by omega
        clear hsa hsp hsv hsk
        go_upto_region 6 with fail
        have hBd := hB1.drew
        have hld : w.heap.size < w1.drew.heap.size := hl1
        go_region_held3 (fun w' => w'.cell? ⟨w.heap.size, 1, none⟩ = some (.int .i64 a) ∧ w'.cell? ⟨w.heap.size, 2, none⟩ = some (.int .i64 p) ∧ w'.cell? ⟨w.heap.size, 3, none⟩ = some (.int .i64 v)) (first | (refine ⟨?_, ?_, ?_⟩ <;> assumption) | go_keep) (first
          | (go_at_call 25; have hx := hB3; refine (unhide HV w3).mono ?_; rintro e w4 ⟨rfl, hb4⟩; have e1 := (hb4.cell (p := ⟨w.heap.size, 1, none⟩) hl3).trans n1; have e2 := (hb4.cell (p := ⟨w.heap.size, 2, none⟩) hl3).trans n2; have e3 := (hb4.cell (p := ⟨w.heap.size, 3, none⟩) hl3).trans n3; have hB4 := bstep hB3 hb4; clear hb4)
          | (go_at_call 25; have hx := hB2; refine (unhide HP w2).mono ?_; rintro e w3 ⟨rfl, hb3⟩; have n1 := (hb3.cell (p := ⟨w.heap.size, 1, none⟩) hl2).trans m1; have n2 := (hb3.cell (p := ⟨w.heap.size, 2, none⟩) hl2).trans m2; have n3 := (hb3.cell (p := ⟨w.heap.size, 3, none⟩) hl2).trans m3; have hl3 : w.heap.size < w3.heap.size := World.block_lt_of_cell? w3 ⟨_, _, none⟩ n1; have hB3 := bstep hB2 hb3; clear hb3)
          | (go_at_call 25; refine (unhide HA w1.drew).mono ?_; rintro e w2 ⟨rfl, hb2⟩; have m1 := (hb2.cell (p := ⟨w.heap.size, 1, none⟩) hld).trans c1; have m2 := (hb2.cell (p := ⟨w.heap.size, 2, none⟩) hld).trans c2; have m3 := (hb2.cell (p := ⟨w.heap.size, 3, none⟩) hld).trans c3; have hl2 : w.heap.size < w2.heap.size := World.block_lt_of_cell? w2 ⟨_, _, none⟩ m1; have hB2 := bstep hBd hb2; clear hb2))
        go_wp2
        go_ret
        exact ⟨by rw [unhide HT]; rfl, hB4⟩
      · have k6b : ((k : Int) == 6) = false := beq_eq_false_iff_ne.2 (by omega)
        have HT := hide (text2 k1 k6 a p v)
        have HA := hide (fun (W : World) => l1Plain_any a W ha)
        generalize decB a = da at HA hsa HT
        clear hnm hke hb0 hBd d0 d1 d2 d3 hl hld k6 k1 ha hp hv
        generalize mkS (evName k) = nb at *
        have z1 : ¬ (nb.size + 1 > 9223372036854775807) := by omega
        have z2 : ¬ (nb.size + 1 + da.size > 9223372036854775807) := by omega
        clear hsa hsp hsv hsk
        go_wp2_with fail
        refine (unhide HA _).mono ?_
        rintro e w2 ⟨rfl, hb2⟩
        have hB2 := bstep hB1 hb2
        go_wp2
        go_ret
        exact ⟨by rw [unhide HT]; rfl, hB2⟩
end Go.Proofs.YthelpghiafbejaaDoor
