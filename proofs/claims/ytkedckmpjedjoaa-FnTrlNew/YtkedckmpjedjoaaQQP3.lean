/- The same program twice: the laws' eqPrg.. -/
import Derived.Test.YtkedckmpjedjoaaQQP1QP2
import Derived.Deep.RegionHeld3
namespace Go.Proofs.Ytkedckmpjedjoaa
open Go.RowKit
set_option linter.unusedVariables false
set_option linter.unusedSimpArgs false

theorem eqGl_yes (x : Gl) (v0 v1 v2 v3 u0 u1 u2 u3 : Value) (w : World) (hF : FitGl x) (hs : szGl x ≤ 1048576) (hv : GlV w x v0 v1 v2 v3) (hu : GlV w x u0 u1 u2 u3) :
    Calls Try.prog 161 #[.agg #[v0, v1, v2, v3], .agg #[u0, u1, u2, u3]] w fun e w' => e = .returned (.bool true) ∧ Below w.heap.size w w' := by
  unfold szGl at hs
  obtain ⟨rfl, ⟨xa, xc, rfl, a1, a2, hA⟩, ⟨ya, yc, rfl, b1, b2, hB⟩, ⟨za, zc, rfl, c1, c2, hC⟩⟩ := hv
  obtain ⟨rfl, ⟨xa', xc', rfl, _, _, hA'⟩, ⟨ya', yc', rfl, _, _, hB'⟩, ⟨za', zc', rfl, _, _, hC'⟩⟩ := hu
  exact eqPrgGoal_yes x.k xa ya za xa' ya' za' xc yc zc xc' yc' zc' x.a x.b x.c w ⟨hA, hB, hC, hF.1.1, hF.2.1.1, hF.2.2.1, by omega, by omega, by omega⟩ ⟨hA', hB', hC', hF.1.1, hF.2.1.1, hF.2.2.1, by omega, by omega, by omega⟩
theorem eqSlC_yes (v u : Value) (t : List C) (w : World) (hv : SlC w v t) (hu : SlC w u t) :
    Calls Try.prog 21 #[v, u] w fun e w' => e = .returned (.bool true) ∧ Below w.heap.size w w' := by
  obtain ⟨xa, xc, rfl, a1, a2, hA⟩ := hv
  obtain ⟨ya, yc, rfl, _, _, hB⟩ := hu
  have h := eqTrmCellS_any xa ya xc yc t t w (Nat.le_trans a1 a2) hA hB
  rw [sameS_yes rfl] at h
  exact h
set_option maxRecDepth 100000 in
set_option maxHeartbeats 1000000 in
theorem eqPc_yes (x : Pc) (v0 v1 v2 u0 u1 u2 : Value) (w : World) (hF : FitPc x) (hs : szPc x ≤ 1048576) (hv : PcV w x v0 v1 v2) (hu : PcV w x u0 u1 u2) :
    Calls Try.prog 109 #[.agg #[v0, v1, v2], .agg #[u0, u1, u2]] w fun e w' => e = .returned (.bool true) ∧ Below w.heap.size w w' := by
  obtain ⟨rfl, rfl, rfl⟩ := hv
  obtain ⟨rfl, rfl, rfl⟩ := hu
  have h1 : (x.n != x.n) = false := by simp
  have h2 : (x.d != x.d) = false := by simp
  clear hF hs
  go_enter Try.func109, Try.ntmps109
  go_wp2
  go_ret
  exact ⟨rfl, bstep (cell_below _ _) (cell_below _ _)⟩

set_option maxRecDepth 100000 in
set_option maxHeartbeats 1000000 in
theorem eqGS_some (b off cap b' off' cap' : Nat) (s : List Gl) (w : World) (hm : s.length ≤ maxLen) (hF : FitG s) (ht : totG s ≤ 1048576) (hA : AtG w b off s) (hU : AtG w b' off' s) :
    Calls Try.prog 150 #[.slice (some ⟨b, off, none⟩) s.length cap, .slice (some ⟨b', off', none⟩) s.length cap'] w fun e w' => e = .returned (.bool true) ∧ Below w.heap.size w w' := by
  unfold maxLen at hm
  have hne : ((s.length : Int) != (s.length : Int)) = false := by simp
  go_enter Try.func150, Try.ntmps150
  go_wp2
  go_loopw [5] (fun i wr => ∃ (k : Nat), k ≤ s.length ∧ i = .int .i64 k ∧ Below w.heap.size w wr) (fun i _ => s.length - (intOf i).toNat)
  case atStart => exact ⟨0, Nat.zero_le _, rfl, Below.refl _ _⟩
  case round =>
    obtain ⟨k, hk, rfl, hB⟩ := hrel
    by_cases hlt : k < s.length
    · obtain ⟨v0, v1, v2, v3, c0, c1, c2, c3, hv⟩ := (hA.below hB) k hlt
      obtain ⟨u0, u1, u2, u3, d0, d1, d2, d3, hu⟩ := (hU.below hB) k hlt
      have H := hide (eqGl_yes _ v0 v1 v2 v3 u0 u1 u2 u3 wr.drew (hF _ (List.getElem_mem hlt)) (Nat.le_trans (totG_mem (List.getElem_mem hlt)) ht) (hv.below (Below.refl _ _).drew) (hu.below (Below.refl _ _).drew))
      clear hv hu
      go_wp2
      go_region_with (go_at_call 161; refine (unhide H).mono ?_; rintro e w1 ⟨rfl, hb1⟩)
      all_goals go_wp2
      all_goals go_roundw
      all_goals first | exact ⟨k + 1, by omega, by go_num, bstep hB.drew (by assumption)⟩ | (simp [intOf]; omega)
    · go_wp2
      go_ret
      exact ⟨rfl, hB⟩

set_option maxRecDepth 100000 in
set_option maxHeartbeats 400000 in
theorem eqGS_none (ao bo : Option Addr) (cap cap' : Nat) (w : World) :
    Calls Try.prog 150 #[.slice ao 0 cap, .slice bo 0 cap'] w fun e w' => e = .returned (.bool true) ∧ Below w.heap.size w w' := by
  go_enter Try.func150, Try.ntmps150
  go_wp2
  refine wp_loop_rounds 1 ?_
  rw [rounds_succ]
  go_wp2
  go_ret
  exact ⟨rfl, Below.refl _ _⟩
theorem eqGS_yes (v u : Value) (s : List Gl) (w : World) (hF : FitG s) (ht : totG s ≤ 1048576) (hv : SlG w v s) (hu : SlG w u s) :
    Calls Try.prog 150 #[v, u] w fun e w' => e = .returned (.bool true) ∧ Below w.heap.size w w' := by
  obtain ⟨ao, cap, rfl, h1, h2, hA⟩ := hv
  obtain ⟨bo, cap', rfl, _, _, hU⟩ := hu
  rcases hA with rfl | ⟨b, off, rfl, hA⟩
  · exact eqGS_none ao bo cap cap' w
  · rcases hU with rfl | ⟨b', off', rfl, hU⟩
    · exact eqGS_none _ bo cap cap' w
    · exact eqGS_some b off cap b' off' cap' s w (Nat.le_trans h1 h2) hF ht hA hU

set_option maxRecDepth 100000 in
set_option maxHeartbeats 1000000 in
theorem eqCl_yes (x : Cl) (v0 v1 u0 u1 : Value) (w : World) (hF : FitCl x) (hs : szCl x ≤ 1048576) (hv : ClV w x v0 v1) (hu : ClV w x u0 u1) :
    Calls Try.prog 108 #[.agg #[v0, v1], .agg #[u0, u1]] w fun e w' => e = .returned (.bool true) ∧ Below w.heap.size w w' := by
  unfold szCl at hs
  have H1 := hide (fun (W : World) (hW : Below w.heap.size w W) => eqSlC_yes v0 u0 x.h W (hv.1.below hW) (hu.1.below hW))
  have H2 := hide (fun (W : World) (hW : Below w.heap.size w W) => eqGS_yes v1 u1 x.g W hF.2 (by omega) (hv.2.below hW) (hu.2.below hW))
  obtain ⟨hb0, d0, d1⟩ := two_new w v0 v1 142
  obtain ⟨hb1, e0, e1⟩ := two_new (w.alloc (.cells #[v0, v1] 142)) u0 u1 142
  have hz : (w.alloc (.cells #[v0, v1] 142)).heap.size = w.heap.size + 1 := by simp
  rw [hz] at e0 e1
  have g1 := (hb1.cell (p := ⟨w.heap.size, 1, none⟩) (by rw [hz]; exact Nat.lt_succ_self _)).trans d1
  have hB1 := bstep hb0 hb1
  obtain ⟨xa, xc, rfl, _⟩ := hv.1
  obtain ⟨ya, yc, rfl, _⟩ := hv.2
  obtain ⟨xa', xc', rfl, _⟩ := hu.1
  obtain ⟨ya', yc', rfl, _⟩ := hu.2
  clear hv hu hF hs
  go_enter Try.func108, Try.ntmps108
  go_wp2_with fail
  generalize (w.alloc (.cells #[_, _] 142)).alloc (.cells #[_, _] 142) = w0 at e0 e1 g1 hB1 ⊢
  clear hb0 hb1 d0 d1 hz e0
  have k0 : w.heap.size + 1 < w0.heap.size := World.block_lt_of_cell? w0 ⟨_, _, none⟩ e1
  have k1 : w.heap.size < w0.heap.size := by omega
  refine (unhide H1 _ hB1).mono ?_
  rintro e w1 ⟨rfl, hb2⟩
  have a1 := (hb2.cell (p := ⟨w.heap.size + 1, 1, none⟩) k0).trans e1
  have b1 := (hb2.cell (p := ⟨w.heap.size, 1, none⟩) k1).trans g1
  have hB2 := bstep hB1 hb2
  clear e1 g1 k0 k1 H1 hB1 hb2
  go_wp2_with fail
  refine (unhide H2 _ hB2).mono ?_
  rintro e w2 ⟨rfl, hb3⟩
  have hB3 := bstep hB2 hb3
  go_wp2
  go_ret
  exact ⟨rfl, hB3⟩

set_option maxRecDepth 100000 in
set_option maxHeartbeats 1000000 in
theorem eqKS_some (b off cap b' off' cap' : Nat) (s : List Cl) (w : World) (hm : s.length ≤ maxLen) (hF : FitK s) (ht : totK s ≤ 1048576) (hA : AtK w b off s) (hU : AtK w b' off' s) :
    Calls Try.prog 49 #[.slice (some ⟨b, off, none⟩) s.length cap, .slice (some ⟨b', off', none⟩) s.length cap'] w fun e w' => e = .returned (.bool true) ∧ Below w.heap.size w w' := by
  unfold maxLen at hm
  have hne : ((s.length : Int) != (s.length : Int)) = false := by simp
  go_enter Try.func49, Try.ntmps49
  go_wp2
  go_loopw [5] (fun i wr => ∃ (k : Nat), k ≤ s.length ∧ i = .int .i64 k ∧ Below w.heap.size w wr) (fun i _ => s.length - (intOf i).toNat)
  case atStart => exact ⟨0, Nat.zero_le _, rfl, Below.refl _ _⟩
  case round =>
    obtain ⟨k, hk, rfl, hB⟩ := hrel
    by_cases hlt : k < s.length
    · obtain ⟨v0, v1, c0, c1, hv⟩ := (hA.below hB) k hlt
      obtain ⟨u0, u1, d0, d1, hu⟩ := (hU.below hB) k hlt
      have H := hide (eqCl_yes _ v0 v1 u0 u1 wr.drew (hF _ (List.getElem_mem hlt)) (Nat.le_trans (totK_mem (List.getElem_mem hlt)) ht) (hv.below (Below.refl _ _).drew) (hu.below (Below.refl _ _).drew))
      clear hv hu
      go_wp2
      go_region_with (go_at_call 108; refine (unhide H).mono ?_; rintro e w1 ⟨rfl, hb1⟩)
      all_goals go_wp2
      all_goals go_roundw
      all_goals first | exact ⟨k + 1, by omega, by go_num, bstep hB.drew (by assumption)⟩ | (simp [intOf]; omega)
    · go_wp2
      go_ret
      exact ⟨rfl, hB⟩

set_option maxRecDepth 100000 in
set_option maxHeartbeats 400000 in
theorem eqKS_none (ao bo : Option Addr) (cap cap' : Nat) (w : World) :
    Calls Try.prog 49 #[.slice ao 0 cap, .slice bo 0 cap'] w fun e w' => e = .returned (.bool true) ∧ Below w.heap.size w w' := by
  go_enter Try.func49, Try.ntmps49
  go_wp2
  refine wp_loop_rounds 1 ?_
  rw [rounds_succ]
  go_wp2
  go_ret
  exact ⟨rfl, Below.refl _ _⟩
theorem eqKS_yes (v u : Value) (s : List Cl) (w : World) (hF : FitK s) (ht : totK s ≤ 1048576) (hv : SlK w v s) (hu : SlK w u s) :
    Calls Try.prog 49 #[v, u] w fun e w' => e = .returned (.bool true) ∧ Below w.heap.size w w' := by
  obtain ⟨ao, cap, rfl, h1, h2, hA⟩ := hv
  obtain ⟨bo, cap', rfl, _, _, hU⟩ := hu
  rcases hA with rfl | ⟨b, off, rfl, hA⟩
  · exact eqKS_none ao bo cap cap' w
  · rcases hU with rfl | ⟨b', off', rfl, hU⟩
    · exact eqKS_none _ bo cap cap' w
    · exact eqKS_some b off cap b' off' cap' s w (Nat.le_trans h1 h2) hF ht hA hU

set_option maxRecDepth 100000 in
set_option maxHeartbeats 1000000 in
theorem eqPS_some (b off cap b' off' cap' : Nat) (s : List Pc) (w : World) (hm : s.length ≤ maxLen) (hF : FitP s) (ht : totP s ≤ 1048576) (hA : AtP w b off s) (hU : AtP w b' off' s) :
    Calls Try.prog 50 #[.slice (some ⟨b, off, none⟩) s.length cap, .slice (some ⟨b', off', none⟩) s.length cap'] w fun e w' => e = .returned (.bool true) ∧ Below w.heap.size w w' := by
  unfold maxLen at hm
  have hne : ((s.length : Int) != (s.length : Int)) = false := by simp
  go_enter Try.func50, Try.ntmps50
  go_wp2
  go_loopw [5] (fun i wr => ∃ (k : Nat), k ≤ s.length ∧ i = .int .i64 k ∧ Below w.heap.size w wr) (fun i _ => s.length - (intOf i).toNat)
  case atStart => exact ⟨0, Nat.zero_le _, rfl, Below.refl _ _⟩
  case round =>
    obtain ⟨k, hk, rfl, hB⟩ := hrel
    by_cases hlt : k < s.length
    · obtain ⟨v0, v1, v2, c0, c1, c2, hv⟩ := (hA.below hB) k hlt
      obtain ⟨u0, u1, u2, d0, d1, d2, hu⟩ := (hU.below hB) k hlt
      have H := hide (eqPc_yes _ v0 v1 v2 u0 u1 u2 wr.drew (hF _ (List.getElem_mem hlt)) (Nat.le_trans (totP_mem (List.getElem_mem hlt)) ht) (hv.below (Below.refl _ _).drew) (hu.below (Below.refl _ _).drew))
      clear hv hu
      go_wp2
      go_region_with (go_at_call 109; refine (unhide H).mono ?_; rintro e w1 ⟨rfl, hb1⟩)
      all_goals go_wp2
      all_goals go_roundw
      all_goals first | exact ⟨k + 1, by omega, by go_num, bstep hB.drew (by assumption)⟩ | (simp [intOf]; omega)
    · go_wp2
      go_ret
      exact ⟨rfl, hB⟩

set_option maxRecDepth 100000 in
set_option maxHeartbeats 400000 in
theorem eqPS_none (ao bo : Option Addr) (cap cap' : Nat) (w : World) :
    Calls Try.prog 50 #[.slice ao 0 cap, .slice bo 0 cap'] w fun e w' => e = .returned (.bool true) ∧ Below w.heap.size w w' := by
  go_enter Try.func50, Try.ntmps50
  go_wp2
  refine wp_loop_rounds 1 ?_
  rw [rounds_succ]
  go_wp2
  go_ret
  exact ⟨rfl, Below.refl _ _⟩
theorem eqPS_yes (v u : Value) (s : List Pc) (w : World) (hF : FitP s) (ht : totP s ≤ 1048576) (hv : SlP w v s) (hu : SlP w u s) :
    Calls Try.prog 50 #[v, u] w fun e w' => e = .returned (.bool true) ∧ Below w.heap.size w w' := by
  obtain ⟨ao, cap, rfl, h1, h2, hA⟩ := hv
  obtain ⟨bo, cap', rfl, _, _, hU⟩ := hu
  rcases hA with rfl | ⟨b, off, rfl, hA⟩
  · exact eqPS_none ao bo cap cap' w
  · rcases hU with rfl | ⟨b', off', rfl, hU⟩
    · exact eqPS_none _ bo cap cap' w
    · exact eqPS_some b off cap b' off' cap' s w (Nat.le_trans h1 h2) hF ht hA hU

set_option maxRecDepth 100000 in
set_option maxHeartbeats 1000000 in
theorem eqPg_yes (x : Pg) (v0 v1 u0 u1 : Value) (w : World) (hF : FitPg x) (hs : szPg x ≤ 1048576) (hv : PgV w x v0 v1) (hu : PgV w x u0 u1) :
    Calls Try.prog 13 #[.agg #[v0, v1], .agg #[u0, u1]] w fun e w' => e = .returned (.bool true) ∧ Below w.heap.size w w' := by
  unfold szPg at hs
  have H1 := hide (fun (W : World) (hW : Below w.heap.size w W) => eqKS_yes v0 u0 x.cs W hF.1 (by omega) (hv.1.below hW) (hu.1.below hW))
  have H2 := hide (fun (W : World) (hW : Below w.heap.size w W) => eqPS_yes v1 u1 x.ps W hF.2 (by omega) (hv.2.below hW) (hu.2.below hW))
  obtain ⟨hb0, d0, d1⟩ := two_new w v0 v1 30
  obtain ⟨hb1, e0, e1⟩ := two_new (w.alloc (.cells #[v0, v1] 30)) u0 u1 30
  have hz : (w.alloc (.cells #[v0, v1] 30)).heap.size = w.heap.size + 1 := by simp
  rw [hz] at e0 e1
  have g1 := (hb1.cell (p := ⟨w.heap.size, 1, none⟩) (by rw [hz]; exact Nat.lt_succ_self _)).trans d1
  have hB1 := bstep hb0 hb1
  obtain ⟨xa, xc, rfl, _⟩ := hv.1
  obtain ⟨ya, yc, rfl, _⟩ := hv.2
  obtain ⟨xa', xc', rfl, _⟩ := hu.1
  obtain ⟨ya', yc', rfl, _⟩ := hu.2
  clear hv hu hF hs
  go_enter Try.func13, Try.ntmps13
  go_wp2_with fail
  generalize (w.alloc (.cells #[_, _] 30)).alloc (.cells #[_, _] 30) = w0 at e0 e1 g1 hB1 ⊢
  clear hb0 hb1 d0 d1 hz e0
  have k0 : w.heap.size + 1 < w0.heap.size := World.block_lt_of_cell? w0 ⟨_, _, none⟩ e1
  have k1 : w.heap.size < w0.heap.size := by omega
  refine (unhide H1 _ hB1).mono ?_
  rintro e w1 ⟨rfl, hb2⟩
  have a1 := (hb2.cell (p := ⟨w.heap.size + 1, 1, none⟩) k0).trans e1
  have b1 := (hb2.cell (p := ⟨w.heap.size, 1, none⟩) k1).trans g1
  have hB2 := bstep hB1 hb2
  clear e1 g1 k0 k1 H1 hB1 hb2
  go_wp2_with fail
  refine (unhide H2 _ hB2).mono ?_
  rintro e w2 ⟨rfl, hb3⟩
  have hB3 := bstep hB2 hb3
  go_wp2
  go_ret
  exact ⟨rfl, hB3⟩
end Go.Proofs.Ytkedckmpjedjoaa
