/- Copies that are owned: clauses, a program. -/
import Derived.Test.YthgfhimhgeohcaaQCP1
import Derived.Test.YthgfhimhgeohcaaQTG5TG6
namespace Go.Proofs.Ythgfhimhgeohcaa
open Go.RowKit Go.Shelf
set_option linter.unusedVariables false
set_option linter.unusedSimpArgs false

set_option maxRecDepth 100000 in
set_option maxHeartbeats 2000000 in
theorem toCl_anyS (x : Cl) (v0 v1 : Value) (w : World) (hF : FitCl x) (hs : szCl x ≤ 1048576) (hv : ClV w x v0 v1) :
    Calls Try.prog 90 #[.agg #[v0, v1]] w fun e w' => ∃ u0 u1, e = .returned (.agg #[u0, u1]) ∧ SegK w.heap.size w'.heap.size w' x u0 u1 ∧ Below w.heap.size w w' := by
  unfold szCl at hs
  have H1 := hide (fun (W : World) (hW : Below w.heap.size w W) => toSlC_anyS v0 x.h W (by omega) (hv.1.below hW))
  have H2 := hide (fun (W : World) (hW : Below w.heap.size w W) => toGS_anyS v1 x.g W (by omega) hF.2 (by omega) (hv.2.below hW))
  obtain ⟨xa, xc, e0, _⟩ := hv.1
  obtain ⟨ya, yc, e1, _⟩ := hv.2
  clear hv hF hs
  subst e0 e1
  go_enter Try.func90, Try.ntmps90
  go_wp2_with fail
  obtain ⟨W, hW⟩ : ∃ W, W = ((w.alloc (Obj.cells #[.slice xa x.h.length xc, .slice ya x.g.length yc] 128)).alloc (Obj.cells #[.slice none 0 0, .slice none 0 0] 135)).alloc (Obj.cells #[.slice none 0 0, .slice none 0 0] 135) := ⟨_, rfl⟩
  have hB0 : Below w.heap.size w W := by rw [hW]; exact below3 _ _ _ _
  have hsz : W.heap.size = w.heap.size + 3 := by rw [hW]; simp
  have A1 : W.cell? ⟨w.heap.size, 1, none⟩ = some (.slice ya x.g.length yc) := by rw [hW]; simp [go_sem]
  have c0 : W.cell? ⟨w.heap.size + 1 + 1, 0, none⟩ = some (.slice none 0 0) := by rw [hW]; simp [go_sem]
  have z0 : W.cell? ⟨w.heap.size + 1, 0, none⟩ = some (.slice none 0 0) := by rw [hW]; simp [go_sem]
  have f0 : W.frozen? ⟨w.heap.size + 1 + 1, 0, none⟩ = false := by rw [hW]; simp [go_sem]
  have y0 : W.frozen? ⟨w.heap.size + 1, 0, none⟩ = false := by rw [hW]; simp [go_sem]
  have c1 : W.cell? ⟨w.heap.size + 1 + 1, 1, none⟩ = some (.slice none 0 0) := by rw [hW]; simp [go_sem]
  have z1 : W.cell? ⟨w.heap.size + 1, 1, none⟩ = some (.slice none 0 0) := by rw [hW]; simp [go_sem]
  have f1 : W.frozen? ⟨w.heap.size + 1 + 1, 1, none⟩ = false := by rw [hW]; simp [go_sem]
  have y1 : W.frozen? ⟨w.heap.size + 1, 1, none⟩ = false := by rw [hW]; simp [go_sem]
  rw [← hW]
  clear hW
  have q0 : w.heap.size < W.heap.size := by omega
  have q1 : w.heap.size + 1 < W.heap.size := by omega
  have q2 : w.heap.size + 1 + 1 < W.heap.size := by omega
  clear hsz
  refine (unhide H1 W hB0).mono ?_
  rintro e w1 ⟨g1, rfl, P1, hb1⟩
  replace A1 := (hb1.cell (p := ⟨w.heap.size, 1, none⟩) q0).trans A1
  replace c0 := (hb1.cell (p := ⟨w.heap.size + 1 + 1, 0, none⟩) q2).trans c0
  replace z0 := (hb1.cell (p := ⟨w.heap.size + 1, 0, none⟩) q1).trans z0
  replace f0 := (hb1.frozen (p := ⟨w.heap.size + 1 + 1, 0, none⟩) q2).trans f0
  replace y0 := (hb1.frozen (p := ⟨w.heap.size + 1, 0, none⟩) q1).trans y0
  replace c1 := (hb1.cell (p := ⟨w.heap.size + 1 + 1, 1, none⟩) q2).trans c1
  replace z1 := (hb1.cell (p := ⟨w.heap.size + 1, 1, none⟩) q1).trans z1
  replace f1 := (hb1.frozen (p := ⟨w.heap.size + 1 + 1, 1, none⟩) q2).trans f1
  replace y1 := (hb1.frozen (p := ⟨w.heap.size + 1, 1, none⟩) q1).trans y1
  have hB1 := bstep hB0 hb1
  have l1 := hb1.size
  go_wp2_with fail
  obtain ⟨V, hV⟩ : ∃ V, V = w1.setCell ⟨w.heap.size + 1 + 1, 0, none⟩ (.slice (some ⟨g1, 0, none⟩) x.h.length x.h.length) := ⟨_, rfl⟩
  rw [← hV]
  have hsV : V.heap.size = w1.heap.size := by rw [hV]; simp
  replace c0 : V.cell? ⟨w.heap.size + 1 + 1, 0, none⟩ = some (.slice (some ⟨g1, 0, none⟩) x.h.length x.h.length) := by rw [hV]; simp [go_sem, c0, f0]
  replace c1 : V.cell? ⟨w.heap.size + 1 + 1, 1, none⟩ = some (.slice none 0 0) := by rw [hV]; simp [go_sem, c1]
  replace z0 : V.cell? ⟨w.heap.size + 1, 0, none⟩ = some (.slice none 0 0) := by rw [hV]; simp [go_sem, z0]
  replace z1 : V.cell? ⟨w.heap.size + 1, 1, none⟩ = some (.slice none 0 0) := by rw [hV]; simp [go_sem, z1]
  replace f0 : V.frozen? ⟨w.heap.size + 1 + 1, 0, none⟩ = false := by rw [hV]; simp [go_sem, f0]
  replace f1 : V.frozen? ⟨w.heap.size + 1 + 1, 1, none⟩ = false := by rw [hV]; simp [go_sem, f1]
  replace y0 : V.frozen? ⟨w.heap.size + 1, 0, none⟩ = false := by rw [hV]; simp [go_sem, y0]
  replace y1 : V.frozen? ⟨w.heap.size + 1, 1, none⟩ = false := by rw [hV]; simp [go_sem, y1]
  have hBV : Below w.heap.size w V := by rw [hV]; exact hB1.setCell (p := ⟨w.heap.size + 1 + 1, 0, none⟩) (by simp; omega) _
  have P1V := P1.kept (w' := V) (by rw [hV]; exact Agree.set (.inl q2))
  have r1 : w.heap.size + 1 < V.heap.size := by omega
  have r2 : w.heap.size + 1 + 1 < V.heap.size := by omega
  clear hV P1 hB1 hb1 A1
  refine (unhide H2 V hBV).mono ?_
  rintro e w2 ⟨g2, rfl, P2, hb2⟩
  replace c0 := (hb2.cell (p := ⟨w.heap.size + 1 + 1, 0, none⟩) r2).trans c0
  replace z0 := (hb2.cell (p := ⟨w.heap.size + 1, 0, none⟩) r1).trans z0
  replace f0 := (hb2.frozen (p := ⟨w.heap.size + 1 + 1, 0, none⟩) r2).trans f0
  replace y0 := (hb2.frozen (p := ⟨w.heap.size + 1, 0, none⟩) r1).trans y0
  replace c1 := (hb2.cell (p := ⟨w.heap.size + 1 + 1, 1, none⟩) r2).trans c1
  replace z1 := (hb2.cell (p := ⟨w.heap.size + 1, 1, none⟩) r1).trans z1
  replace f1 := (hb2.frozen (p := ⟨w.heap.size + 1 + 1, 1, none⟩) r2).trans f1
  replace y1 := (hb2.frozen (p := ⟨w.heap.size + 1, 1, none⟩) r1).trans y1
  have hB2 := bstep hBV hb2
  have P1W := P1V.kept (Agree.below hb2 (by omega))
  have l2 := hb2.size
  obtain ⟨WF, hWF⟩ : ∃ WF, WF = (((w2.setCell ⟨w.heap.size + 1 + 1, 1, none⟩ (.slice (some ⟨g2, 0, none⟩) x.g.length x.g.length)).setCell ⟨w.heap.size + 1, 0, none⟩ (.slice (some ⟨g1, 0, none⟩) x.h.length x.h.length)).setCell ⟨w.heap.size + 1, 1, none⟩ (.slice (some ⟨g2, 0, none⟩) x.g.length x.g.length)) := ⟨_, rfl⟩
  have hsF : WF.heap.size = w2.heap.size := by rw [hWF]; simp [World.setCell]
  have P1F := P1W.kept (w' := WF) (by rw [hWF]; exact ((Agree.set (.inl q2)).trans (Agree.set (.inl q1))).trans (Agree.set (.inl q1)))
  have P2F := P2.kept (egl_keeps _) (w' := WF) (by rw [hWF]; exact ((Agree.set (.inl r2)).trans (Agree.set (.inl r1))).trans (Agree.set (.inl r1)))
  have FS : Hid (SegK w.heap.size WF.heap.size WF x (.slice (some ⟨g1, 0, none⟩) x.h.length x.h.length) (.slice (some ⟨g2, 0, none⟩) x.g.length x.g.length)) := ⟨w1.heap.size, by omega, by omega, P1F.wide (by omega) (Nat.le_refl _), SegL.wide P2F (by omega) (by omega)⟩
  rw [hWF] at FS
  clear P1F P2F hsF hWF
  have FB : Hid (Below w.heap.size w (((w2.setCell ⟨w.heap.size + 1 + 1, 1, none⟩ (.slice (some ⟨g2, 0, none⟩) x.g.length x.g.length)).setCell ⟨w.heap.size + 1, 0, none⟩ (.slice (some ⟨g1, 0, none⟩) x.h.length x.h.length)).setCell ⟨w.heap.size + 1, 1, none⟩ (.slice (some ⟨g2, 0, none⟩) x.g.length x.g.length))) := ((hB2.setCell (p := ⟨w.heap.size + 1 + 1, 1, none⟩) (by simp; omega) _).setCell (p := ⟨w.heap.size + 1, 0, none⟩) (by simp) _).setCell (p := ⟨w.heap.size + 1, 1, none⟩) (by simp) _
  clear P1V P1W P2 hB2 hb2 hBV hB0 H1 H2
  go_wp2
  exact bodyPost_ret (v := .agg #[(.slice (some ⟨g1, 0, none⟩) x.h.length x.h.length), (.slice (some ⟨g2, 0, none⟩) x.g.length x.g.length)]) (by simp [results, Try.results90, go_sem, *]) rfl ⟨_, _, rfl, unhide FS, unhide FB⟩

set_option maxRecDepth 100000 in
set_option maxHeartbeats 2000000 in
theorem toKS_someS (b off cap : Nat) (s : List Cl) (w : World) (hm : s.length ≤ 1048576) (hF : FitK s) (ht : totK s ≤ 1048576) (hA : AtK w b off s) :
    Calls Try.prog 40 #[.slice (some ⟨b, off, none⟩) s.length cap] w fun e w' => e = .returned (.slice (some ⟨w.heap.size, 0, none⟩) s.length s.length) ∧ SegKS w.heap.size w'.heap.size w' (.slice (some ⟨w.heap.size, 0, none⟩) s.length s.length) s ∧ Below w.heap.size w w' := by
  obtain ⟨i0, hi, hz0, hz1, hz2⟩ := info_parts Try.infoK
  have hbytes : i0.bytes * s.length ≤ 281474976710656 := by rw [hz2]; omega
  go_enter Try.func40, Try.ntmps40
  go_wp2_with (at_make; refine wpList_make_full _ rfl _ _ 27 rfl w.heap.size 135 i0 _ 2 Try.underlying27 hi hz0 hz1 .i64 .i64 _ _ s.length rfl rfl rfl rfl hbytes (by unfold maxLen; omega) (Nat.le_refl _) ?_; intro w0 hown0 hgr0)
  have hB0 : Below w.heap.size w w0 := (Below.refl _ _).grown hgr0 (Nat.le_refl _) (fun k e => by cases e)
  go_loopw [4] (fun i wr => ∃ (k : Nat), k ≤ s.length ∧ i = .int .i64 k ∧ ToL w 135 2 s.length (EKl s) k wr) (fun i _ => s.length - (intOf i).toNat)
  case atStart => exact ⟨0, Nat.zero_le _, rfl, _, fun _ => 0, fun _ => 0, hown0, fun i h => absurd h (Nat.not_lt_zero _), hB0⟩
  case round =>
    obtain ⟨k, hk, rfl, hT⟩ := hrel
    have hB : Below w.heap.size w wr := by obtain ⟨_, _, _, _, _, h⟩ := hT; exact h
    have HT := hide hT
    clear hT hown0 hgr0 hB0
    by_cases hlt : k < s.length
    · obtain ⟨v0, v1, c0, c1, hv⟩ := (hA.below hB) k hlt
      have H := hide (toCl_anyS _ v0 v1 wr (hF _ (List.getElem_mem hlt)) (Nat.le_trans (totK_mem (List.getElem_mem hlt)) ht) hv)
      clear hv
      go_wp2_with fail
      refine (unhide H).mono ?_
      rintro e w1 ⟨u0, u1, rfl, hu, hb1⟩
      clear c0 c1 H
      have hE1 : EKl s k wr.heap.size w1.heap.size w1 [u0, u1] := ⟨hlt, u0, u1, rfl, hu⟩
      obtain ⟨⟨xa, xc, e0, _⟩, ⟨ya, yc, e1, _⟩⟩ := hu.clV
      subst e0 e1
      obtain ⟨⟨a0, a1, d0, d1⟩, ⟨f0, f1⟩, R⟩ := ToL.round2 (ekl_keeps s) hlt (unhide HT) hb1 hE1
      have HRR := hide R
      clear R hu hE1
      go_wp2
      go_roundw
      case rel => exact ⟨k + 1, by omega, by go_num, unhide HRR⟩
      case measure => simp [intOf]; omega
    · have e : k = s.length := by omega
      subst e
      go_wp2
      go_ret
      exact ⟨rfl, ToL.done (unhide HT)⟩

set_option maxRecDepth 100000 in
set_option maxHeartbeats 1000000 in
theorem toKS_noneS (ao : Option Addr) (cap : Nat) (w : World) :
    Calls Try.prog 40 #[.slice ao 0 cap] w fun e w' => e = .returned (.slice (some ⟨w.heap.size, 0, none⟩) 0 0) ∧ SegKS w.heap.size w'.heap.size w' (.slice (some ⟨w.heap.size, 0, none⟩) 0 0) [] ∧ Below w.heap.size w w' := by
  obtain ⟨i0, hi, hz0, hz1, hz2⟩ := info_parts Try.infoK
  go_enter Try.func40, Try.ntmps40
  go_wp2_with (at_make; refine wpList_make_full _ rfl _ _ 27 rfl w.heap.size 135 i0 _ 2 Try.underlying27 hi hz0 hz1 .i64 .i64 _ _ 0 rfl rfl rfl rfl (by simp) (by unfold maxLen; omega) (Nat.le_refl _) ?_; intro w0 hown0 hgr0)
  have hB0 : Below w.heap.size w w0 := (Below.refl _ _).grown hgr0 (Nat.le_refl _) (fun k e => by cases e)
  refine wp_loop_rounds 1 ?_
  rw [rounds_succ]
  go_wp2
  go_ret
  exact ⟨rfl, ToL.done (w := w) (T := 135) (sz := 2) (n := 0) (E := EKl []) ⟨_, fun _ => 0, fun _ => 0, hown0, fun i h => absurd h (Nat.not_lt_zero _), hB0⟩⟩

theorem toKS_anyS (v : Value) (s : List Cl) (w : World) (hm : s.length ≤ 1048576) (hF : FitK s) (ht : totK s ≤ 1048576) (hv : SlK w v s) :
    Calls Try.prog 40 #[v] w fun e w' => ∃ g, e = .returned (.slice (some ⟨g, 0, none⟩) s.length s.length) ∧ SegKS w.heap.size w'.heap.size w' (.slice (some ⟨g, 0, none⟩) s.length s.length) s ∧ Below w.heap.size w w' := by
  obtain ⟨ao, cap, rfl, h1, h2, hA⟩ := hv
  rcases hA with rfl | ⟨b, off, rfl, hA⟩
  · exact (toKS_noneS ao cap w).mono fun e w' ⟨h1, h2, h3⟩ => ⟨_, h1, h2, h3⟩
  · exact (toKS_someS b off cap s w hm hF ht hA).mono fun e w' ⟨h1, h2, h3⟩ => ⟨_, h1, h2, h3⟩


set_option maxRecDepth 100000 in
set_option maxHeartbeats 2000000 in
theorem toPg_anyS (x : Pg) (v0 v1 : Value) (w : World) (hF : FitPg x) (hs : szPg x ≤ 1048576) (hv : PgV w x v0 v1) :
    Calls Try.prog 10 #[.agg #[v0, v1]] w fun e w' => ∃ u0 u1, e = .returned (.agg #[u0, u1]) ∧ (∃ m, w.heap.size ≤ m ∧ m ≤ w'.heap.size ∧ SegKS w.heap.size m w' u0 x.cs ∧ SegP m w'.heap.size w' u1 x.ps) ∧ Below w.heap.size w w' := by
  unfold szPg at hs
  have H1 := hide (fun (W : World) (hW : Below w.heap.size w W) => toKS_anyS v0 x.cs W (by omega) hF.1 (by omega) (hv.1.below hW))
  have H2 := hide (fun (W : World) (hW : Below w.heap.size w W) => toPS_anyS v1 x.ps W (by omega) hF.2 (by omega) (hv.2.below hW))
  obtain ⟨xa, xc, e0, _⟩ := hv.1
  obtain ⟨ya, yc, e1, _⟩ := hv.2
  clear hv hF hs
  subst e0 e1
  go_enter Try.func10, Try.ntmps10
  go_wp2_with fail
  obtain ⟨W, hW⟩ : ∃ W, W = ((w.alloc (Obj.cells #[.slice xa x.cs.length xc, .slice ya x.ps.length yc] 25)).alloc (Obj.cells #[.slice none 0 0, .slice none 0 0] 30)).alloc (Obj.cells #[.slice none 0 0, .slice none 0 0] 30) := ⟨_, rfl⟩
  have hB0 : Below w.heap.size w W := by rw [hW]; exact below3 _ _ _ _
  have hsz : W.heap.size = w.heap.size + 3 := by rw [hW]; simp
  have A1 : W.cell? ⟨w.heap.size, 1, none⟩ = some (.slice ya x.ps.length yc) := by rw [hW]; simp [go_sem]
  have c0 : W.cell? ⟨w.heap.size + 1 + 1, 0, none⟩ = some (.slice none 0 0) := by rw [hW]; simp [go_sem]
  have z0 : W.cell? ⟨w.heap.size + 1, 0, none⟩ = some (.slice none 0 0) := by rw [hW]; simp [go_sem]
  have f0 : W.frozen? ⟨w.heap.size + 1 + 1, 0, none⟩ = false := by rw [hW]; simp [go_sem]
  have y0 : W.frozen? ⟨w.heap.size + 1, 0, none⟩ = false := by rw [hW]; simp [go_sem]
  have c1 : W.cell? ⟨w.heap.size + 1 + 1, 1, none⟩ = some (.slice none 0 0) := by rw [hW]; simp [go_sem]
  have z1 : W.cell? ⟨w.heap.size + 1, 1, none⟩ = some (.slice none 0 0) := by rw [hW]; simp [go_sem]
  have f1 : W.frozen? ⟨w.heap.size + 1 + 1, 1, none⟩ = false := by rw [hW]; simp [go_sem]
  have y1 : W.frozen? ⟨w.heap.size + 1, 1, none⟩ = false := by rw [hW]; simp [go_sem]
  rw [← hW]
  clear hW
  have q0 : w.heap.size < W.heap.size := by omega
  have q1 : w.heap.size + 1 < W.heap.size := by omega
  have q2 : w.heap.size + 1 + 1 < W.heap.size := by omega
  clear hsz
  refine (unhide H1 W hB0).mono ?_
  rintro e w1 ⟨g1, rfl, P1, hb1⟩
  replace A1 := (hb1.cell (p := ⟨w.heap.size, 1, none⟩) q0).trans A1
  replace c0 := (hb1.cell (p := ⟨w.heap.size + 1 + 1, 0, none⟩) q2).trans c0
  replace z0 := (hb1.cell (p := ⟨w.heap.size + 1, 0, none⟩) q1).trans z0
  replace f0 := (hb1.frozen (p := ⟨w.heap.size + 1 + 1, 0, none⟩) q2).trans f0
  replace y0 := (hb1.frozen (p := ⟨w.heap.size + 1, 0, none⟩) q1).trans y0
  replace c1 := (hb1.cell (p := ⟨w.heap.size + 1 + 1, 1, none⟩) q2).trans c1
  replace z1 := (hb1.cell (p := ⟨w.heap.size + 1, 1, none⟩) q1).trans z1
  replace f1 := (hb1.frozen (p := ⟨w.heap.size + 1 + 1, 1, none⟩) q2).trans f1
  replace y1 := (hb1.frozen (p := ⟨w.heap.size + 1, 1, none⟩) q1).trans y1
  have hB1 := bstep hB0 hb1
  have l1 := hb1.size
  go_wp2_with fail
  obtain ⟨V, hV⟩ : ∃ V, V = w1.setCell ⟨w.heap.size + 1 + 1, 0, none⟩ (.slice (some ⟨g1, 0, none⟩) x.cs.length x.cs.length) := ⟨_, rfl⟩
  rw [← hV]
  have hsV : V.heap.size = w1.heap.size := by rw [hV]; simp
  replace c0 : V.cell? ⟨w.heap.size + 1 + 1, 0, none⟩ = some (.slice (some ⟨g1, 0, none⟩) x.cs.length x.cs.length) := by rw [hV]; simp [go_sem, c0, f0]
  replace c1 : V.cell? ⟨w.heap.size + 1 + 1, 1, none⟩ = some (.slice none 0 0) := by rw [hV]; simp [go_sem, c1]
  replace z0 : V.cell? ⟨w.heap.size + 1, 0, none⟩ = some (.slice none 0 0) := by rw [hV]; simp [go_sem, z0]
  replace z1 : V.cell? ⟨w.heap.size + 1, 1, none⟩ = some (.slice none 0 0) := by rw [hV]; simp [go_sem, z1]
  replace f0 : V.frozen? ⟨w.heap.size + 1 + 1, 0, none⟩ = false := by rw [hV]; simp [go_sem, f0]
  replace f1 : V.frozen? ⟨w.heap.size + 1 + 1, 1, none⟩ = false := by rw [hV]; simp [go_sem, f1]
  replace y0 : V.frozen? ⟨w.heap.size + 1, 0, none⟩ = false := by rw [hV]; simp [go_sem, y0]
  replace y1 : V.frozen? ⟨w.heap.size + 1, 1, none⟩ = false := by rw [hV]; simp [go_sem, y1]
  have hBV : Below w.heap.size w V := by rw [hV]; exact hB1.setCell (p := ⟨w.heap.size + 1 + 1, 0, none⟩) (by simp; omega) _
  have P1V := P1.kept (ekl_keeps _) (w' := V) (by rw [hV]; exact Agree.set (.inl q2))
  have r1 : w.heap.size + 1 < V.heap.size := by omega
  have r2 : w.heap.size + 1 + 1 < V.heap.size := by omega
  clear hV P1 hB1 hb1 A1
  refine (unhide H2 V hBV).mono ?_
  rintro e w2 ⟨g2, rfl, P2, hb2⟩
  replace c0 := (hb2.cell (p := ⟨w.heap.size + 1 + 1, 0, none⟩) r2).trans c0
  replace z0 := (hb2.cell (p := ⟨w.heap.size + 1, 0, none⟩) r1).trans z0
  replace f0 := (hb2.frozen (p := ⟨w.heap.size + 1 + 1, 0, none⟩) r2).trans f0
  replace y0 := (hb2.frozen (p := ⟨w.heap.size + 1, 0, none⟩) r1).trans y0
  replace c1 := (hb2.cell (p := ⟨w.heap.size + 1 + 1, 1, none⟩) r2).trans c1
  replace z1 := (hb2.cell (p := ⟨w.heap.size + 1, 1, none⟩) r1).trans z1
  replace f1 := (hb2.frozen (p := ⟨w.heap.size + 1 + 1, 1, none⟩) r2).trans f1
  replace y1 := (hb2.frozen (p := ⟨w.heap.size + 1, 1, none⟩) r1).trans y1
  have hB2 := bstep hBV hb2
  have P1W := P1V.kept (ekl_keeps _) (Agree.below hb2 (by omega))
  have l2 := hb2.size
  obtain ⟨WF, hWF⟩ : ∃ WF, WF = (((w2.setCell ⟨w.heap.size + 1 + 1, 1, none⟩ (.slice (some ⟨g2, 0, none⟩) x.ps.length x.ps.length)).setCell ⟨w.heap.size + 1, 0, none⟩ (.slice (some ⟨g1, 0, none⟩) x.cs.length x.cs.length)).setCell ⟨w.heap.size + 1, 1, none⟩ (.slice (some ⟨g2, 0, none⟩) x.ps.length x.ps.length)) := ⟨_, rfl⟩
  have hsF : WF.heap.size = w2.heap.size := by rw [hWF]; simp [World.setCell]
  have P1F := P1W.kept (ekl_keeps _) (w' := WF) (by rw [hWF]; exact ((Agree.set (.inl q2)).trans (Agree.set (.inl q1))).trans (Agree.set (.inl q1)))
  have P2F := P2.kept (w' := WF) (by rw [hWF]; exact ((Agree.set (.inl r2)).trans (Agree.set (.inl r1))).trans (Agree.set (.inl r1)))
  have FS : Hid (∃ m, w.heap.size ≤ m ∧ m ≤ WF.heap.size ∧ SegKS w.heap.size m WF (.slice (some ⟨g1, 0, none⟩) x.cs.length x.cs.length) x.cs ∧ SegP m WF.heap.size WF (.slice (some ⟨g2, 0, none⟩) x.ps.length x.ps.length) x.ps) := ⟨w1.heap.size, by omega, by omega, SegL.wide P1F (by omega) (Nat.le_refl _), SegP.wide P2F (by omega) (by omega)⟩
  rw [hWF] at FS
  clear P1F P2F hsF hWF
  have FB : Hid (Below w.heap.size w (((w2.setCell ⟨w.heap.size + 1 + 1, 1, none⟩ (.slice (some ⟨g2, 0, none⟩) x.ps.length x.ps.length)).setCell ⟨w.heap.size + 1, 0, none⟩ (.slice (some ⟨g1, 0, none⟩) x.cs.length x.cs.length)).setCell ⟨w.heap.size + 1, 1, none⟩ (.slice (some ⟨g2, 0, none⟩) x.ps.length x.ps.length))) := ((hB2.setCell (p := ⟨w.heap.size + 1 + 1, 1, none⟩) (by simp; omega) _).setCell (p := ⟨w.heap.size + 1, 0, none⟩) (by simp) _).setCell (p := ⟨w.heap.size + 1, 1, none⟩) (by simp) _
  clear P1V P1W P2 hB2 hb2 hBV hB0 H1 H2
  go_wp2
  exact bodyPost_ret (v := .agg #[(.slice (some ⟨g1, 0, none⟩) x.cs.length x.cs.length), (.slice (some ⟨g2, 0, none⟩) x.ps.length x.ps.length)]) (by simp [results, Try.results10, go_sem, *]) rfl ⟨_, _, rfl, unhide FS, unhide FB⟩
end Go.Proofs.Ythgfhimhgeohcaa
