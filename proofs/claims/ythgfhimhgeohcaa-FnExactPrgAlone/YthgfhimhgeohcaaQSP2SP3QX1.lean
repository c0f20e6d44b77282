import Derived.Test.YthgfhimhgeohcaaQSP1
import Derived.Test.YthgfhimhgeohcaaQQP5QP6
import Derived.Test.YthgfhimhgeohcaaQQI9QI10
import Derived.Test.YthgfhimhgeohcaaQQP4
import Derived.Test.YthgfhimhgeohcaaQOpen6QP3
import Derived.Test.YthgfhimhgeohcaaQQP1QP2
import Derived.Deep.RegionHeld3
/- The specification's copies of clauses; its PrgAlone. -/
namespace Go.Proofs.Ythgfhimhgeohcaa
open Go.RowKit Go.Shelf
set_option linter.unusedVariables false
set_option linter.unusedSimpArgs false
attribute [-go_sem] Go.Builtin.append_

def EGs (s : List Gl) (i l r : Nat) (w : World) (us : List Value) : Prop := ∃ (h : i < s.length) (v0 v1 v2 v3 : Value), us = [v0, v1, v2, v3] ∧ ∀ V, Agree l r w V → GlV V s[i] v0 v1 v2 v3
theorem egs_keeps (s : List Gl) : Keeps (EGs s) := fun i l r w w' us ⟨h, v0, v1, v2, v3, e, hs⟩ hk => ⟨h, v0, v1, v2, v3, e, fun V hV => hs V (hk.trans hV)⟩
def EKs (s : List Cl) (i l r : Nat) (w : World) (us : List Value) : Prop := ∃ (h : i < s.length) (v0 v1 : Value), us = [v0, v1] ∧ ∀ V, Agree l r w V → ClV V s[i] v0 v1
theorem eks_keeps (s : List Cl) : Keeps (EKs s) := fun i l r w w' us ⟨h, v0, v1, e, hs⟩ hk => ⟨h, v0, v1, e, fun V hV => hs V (hk.trans hV)⟩
theorem egs_read {lo hi : Nat} {w : World} {v : Value} {s : List Gl} (h : SegL lo hi w 89 4 v s.length (EGs s)) : SlG w v s := by
  obtain ⟨ao, cap, e, h1, h2, h3⟩ := segL_read h (by omega)
  refine ⟨ao, cap, e, h1, h2, ?_⟩
  rcases h3 with h3 | ⟨b, e1, h3⟩
  · exact .inl (List.length_eq_zero_iff.1 h3)
  · refine .inr ⟨b, 0, e1, fun i hi => ?_⟩
    obtain ⟨l, r, us, ⟨_, v0, v1, v2, v3, rfl, hs⟩, hc⟩ := h3 i hi
    refine ⟨v0, v1, v2, v3, ?_, ?_, ?_, ?_, hs w (Agree.refl _ _ _)⟩
    · have := hc 0 v0 rfl (by omega); simpa using this
    · have := hc 1 v1 rfl (by omega); simpa using this
    · have := hc 2 v2 rfl (by omega); simpa using this
    · have := hc 3 v3 rfl (by omega); simpa using this
theorem eks_read {lo hi : Nat} {w : World} {v : Value} {s : List Cl} (h : SegL lo hi w 135 2 v s.length (EKs s)) : SlK w v s := by
  obtain ⟨ao, cap, e, h1, h2, h3⟩ := segL_read h (by omega)
  refine ⟨ao, cap, e, h1, h2, ?_⟩
  rcases h3 with h3 | ⟨b, e1, h3⟩
  · exact .inl (List.length_eq_zero_iff.1 h3)
  · refine .inr ⟨b, 0, e1, fun i hi => ?_⟩
    obtain ⟨l, r, us, ⟨_, v0, v1, rfl, hs⟩, hc⟩ := h3 i hi
    refine ⟨v0, v1, ?_, ?_, hs w (Agree.refl _ _ _)⟩
    · have := hc 0 v0 rfl (by omega); simpa using this
    · have := hc 1 v1 rfl (by omega); simpa using this

/-- A clause that is being copied. -/
structure CpK (w0 : World) (x : Cl) (Cb : Nat) (h1 bv : Value) (j : Nat) (wr : World) : Prop where
  tob : wr.heap[Cb]? = some (.cells #[h1, bv] 135)
  hd : ∀ V, Agree w0.heap.size Cb wr V → SlC V h1 x.h
  gs : SegL (Cb + 1) wr.heap.size wr 89 4 bv j (EGs x.g)
  lo : w0.heap.size ≤ Cb
  bl : Below w0.heap.size w0 wr
theorem CpK.lt {w0 : World} {x : Cl} {Cb : Nat} {h1 bv : Value} {j : Nat} {wr : World} (h : CpK w0 x Cb h1 bv j wr) : Cb < wr.heap.size := (Array.getElem?_eq_some_iff.1 h.tob).1
theorem GlV.one {w : World} {x : Gl} {v0 v1 v2 v3 : Value} (h : GlV w x v0 v1 v2 v3) : v0.oneCell' = true ∧ v1.oneCell' = true ∧ v2.oneCell' = true ∧ v3.oneCell' = true := by
  obtain ⟨rfl, ⟨_, _, rfl, _⟩, ⟨_, _, rfl, _⟩, ⟨_, _, rfl, _⟩⟩ := h
  exact ⟨rfl, rfl, rfl, rfl⟩
theorem ClV.one {w : World} {x : Cl} {v0 v1 : Value} (h : ClV w x v0 v1) : v0.oneCell' = true ∧ v1.oneCell' = true := by
  obtain ⟨⟨_, _, rfl, _⟩, ⟨_, _, rfl, _⟩⟩ := h
  exact ⟨rfl, rfl⟩

theorem cpK_step {w0 wr w2 : World} {x : Cl} {Cb : Nat} {h1 bv : Value} {k : Nat} {u0 u1 u2 u3 : Value} (h : CpK w0 x Cb h1 bv k wr) (hk : k < x.g.length) (hk4 : x.g.length ≤ 1000000) (hb : Below wr.heap.size wr w2) (hS : Sup wr.heap.size w2 (fun V => GlV V x.g[k] u0 u1 u2 u3)) :
    ∃ g cap w3, (Builtin.append_ #[133, 133] 133 #[bv, .slice (some ⟨w2.heap.size, 0, none⟩) 1 1]).run Try.prog (w2.alloc (.cells #[u0, u1, u2, u3] 89)) = .ok (.slice (some ⟨g, 0, none⟩) (k + 1) cap) w3 ∧
      w3.heap[Cb]? = some (.cells #[h1, bv] 135) ∧ (∀ b, b < Cb → w3.heap[b]? = wr.heap[b]?) ∧ CpK w0 x Cb h1 (.slice (some ⟨g, 0, none⟩) (k + 1) cap) (k + 1) (w3.setCell ⟨Cb, 1, none⟩ (.slice (some ⟨g, 0, none⟩) (k + 1) cap)) := by
  have hlt := h.lt
  have hlo := h.lo
  have hs2 := hb.size
  have ho := hS.here.one
  obtain ⟨g, cap, w3, hr, hseg, hgrow, hv⟩ := SegL.push (egs_keeps x.g) h.gs (by omega) hb (Nat.le_refl _) hs2 (Nat.le_refl _) (us := [u0, u1, u2, u3]) ⟨hk, u0, u1, u2, u3, rfl, fun V hV => hS V hV⟩ rfl (by intro u hu; simp at hu; rcases hu with rfl | rfl | rfl | rfl <;> simp [ho])
    Try.underlying133 (info_parts Try.infoG).choose_spec.1 (info_parts Try.infoG).choose_spec.2.1 (info_parts Try.infoG).choose_spec.2.2.1 (info_parts Try.infoG).choose_spec.2.2.2 rfl (by decide) (by decide) (by omega)
  have key : ∀ b, b < wr.heap.size → bv.ownBlock ≠ some b → w3.heap[b]? = wr.heap[b]? := fun b hb1 hb2 => by
    rw [hgrow.block b (by simp; omega) (fun e => hb2 e.symm), Below.heap_alloc _ _ _ (by omega)]
    exact hb.block b hb1
  have htb := (key Cb hlt (fun e => by have := hv Cb e; omega)).trans h.tob
  have hsz : (w3.setCell ⟨Cb, 1, none⟩ (.slice (some ⟨g, 0, none⟩) (k + 1) cap)).heap.size = w3.heap.size := by simp [World.setCell]
  have low : ∀ b, b < Cb → (w3.setCell ⟨Cb, 1, none⟩ (.slice (some ⟨g, 0, none⟩) (k + 1) cap)).heap[b]? = wr.heap[b]? := fun b hb1 => by
    rw [Below.heap_setCell _ _ _ _ (by show b ≠ Cb; omega), key b (by omega) (fun e => by have := hv b e; omega)]
  refine ⟨g, cap, w3, hr, htb, fun b hb1 => key b (by omega) (fun e => by have := hv b e; omega), ⟨set2_heap htb rfl, fun V hV => h.hd V (fun b b1 b2 => (hV b b1 b2).trans (low b b2)), ?_, hlo, ?_⟩⟩
  · rw [hsz]
    exact hseg.kept (egs_keeps x.g) (Agree.set (.inl (Nat.lt_succ_self Cb)))
  · have hB2 : Below w0.heap.size w0 w2 := bstep h.bl hb
    exact ((hB2.alloc (by omega) _).grown hgrow (by simp; omega) (fun j e => by have := hv j e; omega)).setCell (p := ⟨Cb, 1, none⟩) (by show w0.heap.size ≤ Cb; omega) _

theorem cpK_end {w0 wr : World} {x : Cl} {Cb : Nat} {h1 bv : Value} (h : CpK w0 x Cb h1 bv x.g.length wr) : ∀ V, Agree w0.heap.size wr.heap.size wr V → ClV V x h1 bv := fun V hV => by
  have hlt := h.lt
  have hlo := h.lo
  exact ⟨h.hd V (hV.sub (Nat.le_refl _) (by omega)), egs_read (h.gs.kept (egs_keeps _) (hV.sub (by omega) (Nat.le_refl _)))⟩

set_option maxRecDepth 100000 in
set_option maxHeartbeats 8000000 in
theorem l3Copy_any (v : Value) (s : List Cl) (w : World) (hm : s.length ≤ 1000000) (hgl : ∀ c ∈ s, c.g.length ≤ 1000000) (ht : totK s ≤ 1048576) (hv : SlK w v s) :
    Calls Try.prog 39 #[v] w fun e w' => ∃ v', e = .returned v' ∧ Sup w.heap.size w' (fun V => SlK V v' s) ∧ Below w.heap.size w w' := by
  obtain ⟨ao, cap, rfl, _, _, hR⟩ := hv
  have HR := hide (fun (W : World) (hW : Below w.heap.size w W) => hR.below hW)
  clear hR
  have hO0 : SegL w.heap.size (w.alloc (.cells #[] 135)).heap.size (w.alloc (.cells #[] 135)) 135 2 (.slice (some ⟨w.heap.size, 0, none⟩) 0 0) 0 (EKs s) :=
    ⟨[], fun _ => 0, fun _ => 0, World.ownsRow_made w #[] 0 (Nat.le_refl _) (by simp [maxLen]) rfl, fun b e => (World.ownsRow.lt (World.ownsRow_made w (e := 135) (size := 2) #[] 0 (Nat.le_refl _) (by simp [maxLen]) rfl) b e).2, fun i hi => absurd hi (Nat.not_lt_zero _)⟩
  have HO0 := hide hO0
  clear hO0
  go_enter Try.func39, Try.ntmps39
  go_wp2
  go_loopw [3, 4] (fun ov i wr => ∃ (k : Nat), k ≤ s.length ∧ i = .int .i64 k ∧ SegL w.heap.size wr.heap.size wr 135 2 ov k (EKs s) ∧ Below w.heap.size w wr) (fun _ i _ => s.length - (intOf i).toNat)
  case atStart => exact ⟨0, Nat.zero_le _, rfl, unhide HO0, cell_below _ _⟩
  case round =>
    obtain ⟨k, hk, rfl, hO, hB⟩ := hrel
    obtain ⟨oa, oc, rfl, _⟩ := hO.shape
    clear HO0
    generalize wr = wm at *
    by_cases hlt : k < s.length
    · rcases unhide HR wm hB with e | ⟨b, off, e, hA⟩
      · rw [e] at hlt; simp at hlt
      subst e
      have hsk := totK_mem (List.getElem_mem hlt)
      obtain ⟨g0, g1, c0, c1, hcl⟩ := hA k hlt
      obtain ⟨⟨xa, xc, rfl, _, _, hX⟩, ⟨ya, yc, rfl, hy1, hy2, hY⟩⟩ := hcl
      have HE := hide (And.intro hO hB)
      obtain ⟨y, hy⟩ : ∃ y, y = s[k] := ⟨_, rfl⟩
      rw [← hy] at hX hY hy1 c0 c1 hsk
      unfold szCl at hsk
      have HYE := hide hy
      have HX := hide (fun (W : World) (hW : Below wm.heap.size wm W) => hX.below hW)
      have HY := hide (fun (W : World) (hW : Below wm.heap.size wm W) => hY.below hW)
      have HC := hide (And.intro c0 c1)
      have hbl := World.block_lt_of_cell? wm ⟨_, _, none⟩ c0
      obtain ⟨ha, hc, w1, hr, hS1, hb1⟩ := app_new (wm.alloc (.cells #[] 94)) wm.heap.size xc xa y.h (hX.below (cell_below _ _)) (by omega)
      have hc0' := cell_keep5 c0 (.cells #[] 94)
      have hB1 : Below wm.heap.size wm w1 := bstep (cell_below _ _) hb1
      have hK0 : CpK wm y w1.heap.size (.slice ha y.h.length hc) (.slice none 0 0) 0 (w1.alloc (.cells #[.slice ha y.h.length hc, .slice none 0 0] 135)) := by
        refine ⟨World.alloc_heap_new w1 _, fun V hV => ?_, SegL.empty _ _ _ _ _ _, hB1.size, bstep hB1 (cell_below _ _)⟩
        exact hS1.low (lo' := wm.heap.size) (by simp) V (fun b b1 b2 => (hV b b1 b2).trans (Below.heap_alloc _ _ _ b2))
      obtain ⟨Cb, hCb⟩ : ∃ Cb, Cb = w1.heap.size := ⟨_, rfl⟩
      rw [← hCb] at hK0
      have HK0 := hide hK0
      have hy4 : y.g.length ≤ 1000000 := by rw [hy]; exact hgl _ (List.getElem_mem hlt)
      have hyt : ∀ j, (h : j < y.g.length) → szGl y.g[j] ≤ 1048576 := fun j h => by have := totG_mem (List.getElem_mem h); omega
      have HYT := hide hyt
      clear hO hA hX hY hS1 hb1 hK0 hy hyt
      go_wp2
      rw [← hCb]
      generalize w1.alloc (.cells #[.slice ha y.h.length hc, .slice none 0 0] 135) = wa at HK0 ⊢
      clear hCb hr hc0' hB1
      go_loopw [6] (fun i wr => ∃ (j : Nat) (bv : Value), j ≤ y.g.length ∧ i = .int .i64 j ∧ CpK wm y Cb (.slice ha y.h.length hc) bv j wr) (fun i _ => y.g.length - (intOf i).toNat)
      case atStart => exact ⟨0, _, Nat.zero_le _, rfl, unhide HK0⟩
      case round =>
        obtain ⟨j, bv, hj, rfl, hK⟩ := hrel
        clear HK0
        have HK := hide hK
        obtain ⟨ab, cb, rfl, _⟩ := hK.gs.shape
        obtain ⟨t0, t1, s0, s1⟩ := res2 hK.tob
        have hCl := hK.lt
        have hBw := hK.bl
        have d0 := (hBw.cell (p := ⟨b, off + k * 2, none⟩) hbl).trans (unhide HC).1
        have d1 := (hBw.cell (p := ⟨b, off + k * 2 + 1, none⟩) hbl).trans (unhide HC).2
        clear hK c0 c1
        by_cases hjl : j < y.g.length
        · rcases unhide HY wm (Below.refl _ _) with e | ⟨b2, off2, e, hA0⟩
          · rw [e] at hjl; simp at hjl
          subst e
          have hCl2 := (unhide HK).lo
          obtain ⟨u0, u1, u2, u3, m0, m1, m2, m3, hg⟩ := hA0 j hjl
          have hb2l : b2 < wm.heap.size := World.block_lt_of_cell? wm ⟨_, _, none⟩ m0
          replace m0 := (hBw.cell (p := ⟨b2, off2 + j * 4, none⟩) hb2l).trans m0
          replace m1 := (hBw.cell (p := ⟨b2, off2 + j * 4 + 1, none⟩) hb2l).trans m1
          replace m2 := (hBw.cell (p := ⟨b2, off2 + j * 4 + 2, none⟩) hb2l).trans m2
          replace m3 := (hBw.cell (p := ⟨b2, off2 + j * 4 + 3, none⟩) hb2l).trans m3
          have hdr : Below wr.heap.size wr wr.drew := (Below.refl wr.heap.size wr).drew
          have HL := hide (l3Goal_any y.g[j] u0 u1 u2 u3 wr.drew (unhide HYT j hjl) ((hg.below hBw).below hdr))
          obtain ⟨q0, ⟨pa, pc, q1, _⟩, ⟨pb, pe, q2, _⟩, ⟨pf, ph, q3, _⟩⟩ := hg
          subst q0 q1 q2 q3
          have hbC : b < Cb := Nat.lt_of_lt_of_le hbl hCl2
          have hb2C : b2 < Cb := Nat.lt_of_lt_of_le hb2l hCl2
          have hne1 : b ≠ Cb := by omega
          have hne2 : b2 ≠ Cb := by omega
          clear hA0
          go_wp2
          go_region_with (first | (go_at_call 89; refine (unhide HL).mono ?_; rintro e w2 ⟨z0, z1, z2, z3, rfl, hS, hb2⟩; have hb20 : Below wr.heap.size wr w2 := bstep hdr hb2; obtain ⟨g', cap', w3, hr, ht3, hlow, hst⟩ := cpK_step (unhide HK) hjl hy4 hb20 hS; have v1 := (hb20.cell (p := ⟨Cb, 1, none⟩) hCl).trans t1; have d2 := (hb20.cell (p := ⟨b, off + k * 2 + 1, none⟩) (Nat.lt_trans hbC hCl)).trans d1; have n0 := (hb20.cell (p := ⟨b2, off2 + j * 4, none⟩) (Nat.lt_trans hb2C hCl)).trans m0; have n1 := (hb20.cell (p := ⟨b2, off2 + j * 4 + 1, none⟩) (Nat.lt_trans hb2C hCl)).trans m1; have n2 := (hb20.cell (p := ⟨b2, off2 + j * 4 + 2, none⟩) (Nat.lt_trans hb2C hCl)).trans m2; have n3 := (hb20.cell (p := ⟨b2, off2 + j * 4 + 3, none⟩) (Nat.lt_trans hb2C hCl)).trans m3; have d3 := (World.cell?_of_block (a := ⟨b, off + k * 2 + 1, none⟩) (hlow b hbC)).trans d1; have k0 := (World.cell?_of_block (a := ⟨b2, off2 + j * 4, none⟩) (hlow b2 hb2C)).trans m0; have k1 := (World.cell?_of_block (a := ⟨b2, off2 + j * 4 + 1, none⟩) (hlow b2 hb2C)).trans m1; have k2 := (World.cell?_of_block (a := ⟨b2, off2 + j * 4 + 2, none⟩) (hlow b2 hb2C)).trans m2; have k3 := (World.cell?_of_block (a := ⟨b2, off2 + j * 4 + 3, none⟩) (hlow b2 hb2C)).trans m3; obtain ⟨e0, ⟨x1, y1, e1, _⟩, ⟨x2, y2, e2, _⟩, ⟨x3, y3, e3, _⟩⟩ : GlV w2 y.g[j] z0 z1 z2 z3 := hS.here; subst e0 e1 e2 e3; have v1a := cell_keep5 v1 (.cells #[.int .i64 y.g[j].k, .slice x1 y.g[j].a.length y1, .slice x2 y.g[j].b.length y2, .slice x3 y.g[j].c.length y3] 89); obtain ⟨r0, r1, f0, f1⟩ := res2 ht3; have HST := hide hst; clear hst hS ht3 hlow))
          all_goals go_wp2
          all_goals go_roundw
          all_goals first | exact ⟨j + 1, _, by omega, by go_num, unhide HST⟩ | (simp [intOf]; omega)
        · have e : j = y.g.length := by omega
          subst e
          obtain ⟨hO, hB⟩ := unhide HE
          have hwz := hB.size
          have hEl : EKs s k wm.heap.size wr.heap.size wr [.slice ha y.h.length hc, .slice ab y.g.length cb] := ⟨hlt, _, _, rfl, fun V hV => by rw [← unhide HYE]; exact cpK_end (unhide HK) V hV⟩
          obtain ⟨g', cap', w3, hr, hseg, hgrow, hv⟩ := SegL.push (eks_keeps s) hO hwz hBw (Nat.le_refl _) hBw.size (Nat.le_refl _) (us := [.slice ha y.h.length hc, .slice ab y.g.length cb]) hEl rfl (by intro u hu; simp at hu; rcases hu with rfl | rfl <;> rfl)
            Try.underlying27 (info_parts Try.infoK).choose_spec.1 (info_parts Try.infoK).choose_spec.2.1 (info_parts Try.infoK).choose_spec.2.2.1 (info_parts Try.infoK).choose_spec.2.2.2 rfl (by decide) (by decide) (by omega)
          have hr' : Sem.run Try.prog (Builtin.append_ #[27, 27] 27 #[.slice oa k oc, .slice (some ⟨wr.heap.size, 0, none⟩) 1 1]) (wr.alloc (.cells #[.slice ha y.h.length hc, .slice ab y.g.length cb] 135)) = .ok (.slice (some ⟨g', 0, none⟩) (k + 1) cap') w3 := hr
          have hB3 : Below w.heap.size w w3 := ((bstep hB hBw).alloc (by have := hBw.size; omega) _).grown hgrow (by have := hBw.size; simp; omega) (fun j e => hv j e)
          have FIN := hide (And.intro hseg hB3)
          clear hr hseg hgrow hv hB3 hO hB hEl HK HE
          go_wp2
          go_roundw
          case rel => exact ⟨k + 1, by omega, by go_num, (unhide FIN).1, (unhide FIN).2⟩
          case measure => simp [intOf]; omega
    · have e : k = s.length := by omega
      subst e
      have FIN := hide (show ∃ v', Ending.returned (.slice oa s.length oc) = .returned v' ∧ Sup w.heap.size wm (fun V => SlK V v' s) ∧ Below w.heap.size w wm from ⟨_, rfl, fun V hV => eks_read (hO.kept (eks_keeps s) hV), hB⟩)
      clear hO hB HR
      go_wp2
      go_ret
      exact unhide FIN
end Go.Proofs.Ythgfhimhgeohcaa

/- The specification's PrgAlone. -/
namespace Go.Proofs.Ythgfhimhgeohcaa
open Go.RowKit Go.Shelf
set_option linter.unusedVariables false
set_option linter.unusedSimpArgs false
attribute [-go_sem] Go.Builtin.append_

def ToldP (w : World) (x : Pg) (e : Ending) (w' : World) : Prop := ∃ u0 u1, e = .returned (.agg #[u0, u1]) ∧ Sup w.heap.size w' (fun V => PgV V x u0 u1) ∧ Below w.heap.size w w'

theorem sup_two {w w1 : World} {P : World → Prop} {lo : Nat} {u v : Value} (h : Sup lo w1 P) (hl : w.heap.size + 1 < lo) : Sup w.heap.size ((w1.setCell ⟨w.heap.size + 1, 0, none⟩ u).setCell ⟨w.heap.size + 1, 1, none⟩ v) P := ((h.set hl).set hl).low (by omega)

set_option maxRecDepth 100000 in
set_option maxHeartbeats 4000000 in
theorem specPrgAlone_any (x : Pg) (v0 v1 : Value) (w : World) (hF : FitPg x) (hs : szPg x ≤ 1048576) (hv : PgV w x v0 v1) :
    Calls Try.prog 9 #[.agg #[v0, v1]] w (ToldP w (aloneOf x)) := by
  have HP := hide (fun (W : World) (hW : Below w.heap.size w W) => specPrgOk_any x _ _ W hF hs (hv.below hW))
  have HK := hide (fun (W : World) (hW : Below w.heap.size w W) => hv.1.below hW)
  obtain ⟨a0, n0, c0, a1, n1, c1, rfl, rfl⟩ : ∃ a0 n0 c0 a1 n1 c1, v0 = .slice a0 n0 c0 ∧ v1 = .slice a1 n1 c1 := by
    obtain ⟨⟨xa, xc, e0, _⟩, ⟨ya, yc, e1, _⟩⟩ := hv
    exact ⟨_, _, _, _, _, _, e0, e1⟩
  have hkt : totK x.cs ≤ 1048576 := by unfold szPg at hs; omega
  clear hv hF hs
  go_enter Try.func9, Try.ntmps9
  go_upto_region 1 with fail
  have hb0 : Below w.heap.size w ((w.alloc (.cells #[.slice a0 n0 c0, .slice a1 n1 c1] 30)).alloc (.cells #[.slice none 0 0, .slice none 0 0] 30)) := bstep (cell_below _ _) (cell_below _ _)
  have hs0 : ((w.alloc (.cells #[.slice a0 n0 c0, .slice a1 n1 c1] 30)).alloc (.cells #[.slice none 0 0, .slice none 0 0] 30)).heap.size = w.heap.size + 2 := by simp
  have hres := World.alloc_heap_new (w.alloc (.cells #[.slice a0 n0 c0, .slice a1 n1 c1] 30)) (.cells #[.slice none 0 0, .slice none 0 0] 30)
  rw [World.size_alloc] at hres
  have hpar : ((w.alloc (.cells #[.slice a0 n0 c0, .slice a1 n1 c1] 30)).alloc (.cells #[.slice none 0 0, .slice none 0 0] 30)).heap[w.heap.size]? = some (.cells #[.slice a0 n0 c0, .slice a1 n1 c1] 30) := by
    rw [Below.heap_alloc _ _ _ (by simp)]; exact World.alloc_heap_new w _
  obtain ⟨p0, p1, _, _⟩ := res2 hpar
  generalize (w.alloc (.cells #[.slice a0 n0 c0, .slice a1 n1 c1] 30)).alloc (.cells #[.slice none 0 0, .slice none 0 0] 30) = w0 at hb0 hs0 hres hpar p0 p1 ⊢
  cases hp : prgB x with
  | true =>
    obtain ⟨hl, hpl, hc⟩ := prgB_parts hp
    have hg4 : ∀ c ∈ x.cs, c.g.length ≤ 1000000 := fun c hc' => by have := (clB_parts (hc c hc')).2.1; omega
    have HA := hide (show aloneOf x = ⟨x.cs, []⟩ by unfold aloneOf; rw [if_pos hp])
    rw [hp] at HP
    clear hc hp
    go_wp2_with fail
    refine (unhide HP w0 hb0).mono ?_
    rintro e w1 ⟨rfl, hb1⟩
    have hs1 := hb1.size
    have hB1 := bstep hb0 hb1
    have hp1 := (hb1.block w.heap.size (by omega)).trans hpar
    obtain ⟨k0, k1, _, _⟩ := res2 hp1
    have hres1 := (hb1.block (w.heap.size + 1) (by omega)).trans hres
    have HC := hide (l3Copy_any (.slice a0 n0 c0) x.cs w1 (by omega) hg4 hkt (unhide HK w1 hB1))
    clear hp1 hres hpar p0 p1 HP HK hg4
    go_wp2_with fail
    refine (unhide HC).mono ?_
    rintro e w2 ⟨v', rfl, hS, hb2⟩
    obtain ⟨r0, r1, q0, q1⟩ := res2 ((hb2.block (w.heap.size + 1) (by omega)).trans hres1)
    have hB2 := bstep hB1 hb2
    obtain ⟨xa, xc, e0, _⟩ := hS.here
    subst e0
    have FIN : Hid (ToldP w (aloneOf x) (.returned (.agg #[.slice xa x.cs.length xc, .slice none 0 0])) ((w2.setCell ⟨w.heap.size + 1, 0, none⟩ (.slice xa x.cs.length xc)).setCell ⟨w.heap.size + 1, 1, none⟩ (.slice none 0 0))) := by
      show ToldP _ _ _ _
      rw [unhide HA]
      refine ⟨_, _, rfl, fun V hV => ⟨sup_two hS (by omega) V hV, none, 0, rfl, Nat.le_refl _, by unfold maxLen; omega, .inl rfl⟩, ((hB2.setCell (p := ⟨w.heap.size + 1, 0, none⟩) (Nat.le_succ _) _).setCell (p := ⟨w.heap.size + 1, 1, none⟩) (Nat.le_succ _) _)⟩
    clear hS hb2 HC hB1 hB2 hres1
    go_wp2
    exact bodyPost_ret (v := .agg #[.slice xa x.cs.length xc, .slice none 0 0]) (by simp [results, Try.results9, go_sem, *]) rfl (unhide FIN)
  | false =>
    have HA := hide (show aloneOf x = ⟨[], []⟩ by unfold aloneOf; rw [if_neg (by rw [hp]; simp)])
    rw [hp] at HP
    go_wp2_with fail
    refine (unhide HP w0 hb0).mono ?_
    rintro e w1 ⟨rfl, hb1⟩
    obtain ⟨r0, r1, q0, q1⟩ := res2 ((hb1.block (w.heap.size + 1) (by omega)).trans hres)
    have FIN : Hid (ToldP w (aloneOf x) (.returned (.agg #[.slice none 0 0, .slice none 0 0])) ((w1.setCell ⟨w.heap.size + 1, 0, none⟩ (.slice none 0 0)).setCell ⟨w.heap.size + 1, 1, none⟩ (.slice none 0 0))) := by
      show ToldP _ _ _ _
      rw [unhide HA]
      exact ⟨_, _, rfl, fun V hV => ⟨⟨none, 0, rfl, Nat.le_refl _, by unfold maxLen; omega, .inl rfl⟩, none, 0, rfl, Nat.le_refl _, by unfold maxLen; omega, .inl rfl⟩, (((bstep hb0 hb1).setCell (p := ⟨w.heap.size + 1, 0, none⟩) (Nat.le_succ _) _).setCell (p := ⟨w.heap.size + 1, 1, none⟩) (Nat.le_succ _) _)⟩
    clear hres hpar hb1 hb0 HP HK
    go_wp2
    exact bodyPost_ret (v := .agg #[.slice none 0 0, .slice none 0 0]) (by simp [results, Try.results9, go_sem, *]) rfl (unhide FIN)
end Go.Proofs.Ythgfhimhgeohcaa

/- PrgOk of the program; the walk of FnExactPrgOk. -/
namespace Go.Proofs.Ythgfhimhgeohcaa
open Go.RowKit Go.Shelf
set_option linter.unusedVariables false
set_option linter.unusedSimpArgs false

theorem pgV_sl {w : World} {x : Pg} {v0 v1 : Value} (h : PgV w x v0 v1) : ∃ a0 n0 c0 a1 n1 c1, v0 = .slice a0 n0 c0 ∧ v1 = .slice a1 n1 c1 := by
  obtain ⟨⟨p1, p2, p3, _⟩, ⟨q1, q2, q3, _⟩⟩ := h
  exact ⟨_, _, _, _, _, _, p3, q3⟩

end Go.Proofs.Ythgfhimhgeohcaa
