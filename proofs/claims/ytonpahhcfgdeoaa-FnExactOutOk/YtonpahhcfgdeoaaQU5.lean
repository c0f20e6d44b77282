/- The walk of the specification's l2Unify. -/
import Derived.Test.YtonpahhcfgdeoaaQT6U4
import Derived.Deep.RegionHeld3
namespace Go.Proofs.Ytonpahhcfgdeoaa
open Go.RowKit
set_option linter.unusedVariables false
set_option linter.unusedSimpArgs false

set_option maxRecDepth 100000 in
set_option maxHeartbeats 8000000 in
theorem l2Unify_any (ao : Option Addr) (cap lo : Nat) (s sf : List B) (av bv : Value) (a b : List C) (n : Nat) (res : Option (List B)) (w : World) (hlo : lo ≤ w.heap.size) (hO : OwnB w lo w.heap.size (.slice ao s.length cap) s) (hA : TdT w av a) (hB : TdT w bv b) (hU : Uni n s [(a, b)] res sf) (hR : Room sf s [(a, b)]) :
    Calls Try.prog 37 #[.slice ao s.length cap, av, bv] w (UnOut res lo (.slice ao s.length cap) w) := by
  have HA := hide hA
  have HB := hide hB
  have HU := hide hU
  have HR := hide hR
  have HO := hide hO
  clear hU hR hO
  obtain ⟨ab, aoff, acp, acur, rfl, _⟩ := hA
  obtain ⟨bb, boff, bcp, bcur, rfl, _⟩ := hB
  go_enter Try.func37, Try.ntmps37
  go_wp2
  go_loopg [0, 8, 9] n (fun k sv lv rv wr => UniAt sf res lo w (.slice ao s.length cap) k sv lv rv wr)
  case atStart =>
    have hb : Below w.heap.size w ((w.alloc (.cells #[.slice (some ⟨ab, aoff, none⟩) a.length acp] 28)).alloc (.cells #[.slice (some ⟨bb, boff, none⟩) b.length bcp] 28)) := below2 _ _ _
    refine ⟨s, [(a, b)], unhide HU, unhide HR, ((unhide HO).below (Nat.le_refl _) hb).hi_le hb.size, fun k e => .inl e, ⟨[_], World.ownsRow.alloc (row_one w _ _ _ (Nat.le_refl _)) _, rfl, fun i q q' => ?_⟩, ⟨[_], (by have := row_one (w.alloc (.cells #[.slice (some ⟨ab, aoff, none⟩) a.length acp] 28)) (.slice (some ⟨bb, boff, none⟩) b.length bcp) 28 w.heap.size (by simp); rwa [World.size_alloc] at this), rfl, fun i q q' => ?_⟩, .inr (by simp [Value.ownBlock]), ⟨hb.os, hb.tape, hb.output, hb.size, fun k hk _ => hb.block k hk⟩⟩
    · have : i = 0 := by simp at q; omega
      subst this
      exact (unhide HA).below hb
    · have : i = 0 := by simp at q; omega
      subst this
      exact (unhide HB).below hb
  case round =>
    clear HA HB HU HR HO
    obtain ⟨s', ps, hU, hR, hO, hsb, hL, hRt, hlr, hG⟩ := hrel
    have hps := hR.count
    have hsl := hR.len
    have hws := hG.size
    obtain ⟨sa, sc, rfl, _⟩ := hO.shape
    cases ps with
    | nil =>
      cases hU with
      | done =>
        obtain ⟨la, lc, rfl⟩ := hL.nilShape
        have HF : Hid (UnOut (some sf) lo (.slice ao s.length cap) w (.returned (.tuple #[.slice sa sf.length sc, .bool true])) wr) := ⟨_, rfl, fun s h => (by cases h; exact hO), hG, hsb⟩
        clear hO hsb hRt hlr hG hR hL
        go_wp2
        go_ret2
        exact unhide HF
    | cons p r =>
      obtain ⟨a', b'⟩ := p
      obtain ⟨hpa, hpb⟩ := hR.prs (a', b') (by simp)
      obtain ⟨n1, x, hNx, hxt⟩ := now_all hR.ok hpa
      obtain ⟨n2, y, hNy, hyt⟩ := now_all hR.ok hpb
      obtain ⟨hla, hlb⟩ := hR.short (a', b') (by simp)
      have hxl := hNx.len hR.getlen hla
      have hyl := hNy.len hR.getlen hlb
      have HC := hide (uni_cases hU hNx hNy)
      simp only [List.map_cons] at hL hRt
      obtain ⟨lg, lc, lu, rfl, hlc, hlm, hlcell, hTa, hL'⟩ := hL.top
      obtain ⟨rg, rc, ru, rfl, hrc, hrm, hrcell, hTb, hR'⟩ := hRt.top
      simp only [List.length_map] at hlc hrc hlcell hrcell hL' hR' hL hRt
      have hrl : r.length ≤ 8400000 := by simp at hps; omega
      have HW1 := hide (l2Walk_any sa sc lo wr.heap.size s' lu a' x n1 wr (by omega) (Nat.le_refl _) hO hTa hNx)
      have HW2 := hide (fun (w1 : World) (hb1 : Below wr.heap.size wr w1) => l2Walk_any sa sc lo wr.heap.size s' ru b' y n2 w1 (by omega) hb1.size (hO.below (Nat.le_refl _) hb1) (hTb.below hb1) hNy)
      have hrlt : rg < wr.heap.size := (hRt.lt rg rfl).2
      have HL := hide hL'
      have HRT := hide hR'
      have HLR := hide hlr
      have HO := hide hO
      have HNX := hide hNx
      have HNY := hide hNy
      have HUU := hide hU
      have HROOM := hide hR
      obtain ⟨c, q, rfl⟩ : ∃ c q, x = c :: q := by obtain ⟨c, q, e, _⟩ := hNx.head; exact ⟨c, q, e⟩
      obtain ⟨d, q', rfl⟩ : ∃ d q, y = d :: q := by obtain ⟨c, q, e, _⟩ := hNy.head; exact ⟨c, q, e⟩
      clear hU hR hO hNx hNy hTa hTb hL hRt hL' hR' hlr hpa hpb
      simp only [List.length_cons] at hps ⊢
      go_wp2_with (first | (go_at_call 60; refine (unhide HW1).mono ?_; clear HW1; rintro e w1 ⟨xv, rfl, hTx, hb1⟩; have hrcell1 := (hb1.cell (p := ⟨rg, r.length, none⟩) hrlt).trans hrcell; have HW2' := hide (unhide HW2 w1 hb1); clear HW2; have HX := hide hTx; clear hTx) | (go_at_call 60; refine (unhide HW2').mono ?_; clear HW2'; rintro e w2 ⟨yv, rfl, hTy, hb2⟩; have hTx := (unhide HX).below hb2; obtain ⟨xb, xo, xc, xcur, rfl, hAx, hx1, hx2, hxh⟩ := hTx; obtain ⟨yb, yo, yc, ycur, rfl, hAy, hy1, hy2, hyh⟩ := hTy; obtain ⟨x0, x1, x2⟩ := hAx 0 (by simp); obtain ⟨y0, y1, y2⟩ := hAy 0 (by simp); simp only [List.getElem_cons_zero, Nat.zero_mul, Nat.add_zero] at x0 x1 x2 y0 y1 y2; simp only [List.length_cons] at hx1 hy1))
      have hb12 : Below wr.heap.size wr w2.drew := (bstep hb1 hb2).drew
      have hOd := (unhide HO).below (Nat.le_refl _) hb12
      have hTx : TdT w2.drew (.slice (some ⟨xb, xo, none⟩) (c :: q).length xc) (c :: q) := ⟨xb, xo, xc, xcur, rfl, hAx, by simpa using hx1, hx2, hxh⟩
      have hTy : TdT w2.drew (.slice (some ⟨yb, yo, none⟩) (d :: q').length yc) (d :: q') := ⟨yb, yo, yc, ycur, rfl, hAy, by simpa using hy1, hy2, hyh⟩
      have hLd := (unhide HL).below hb12
      have hRd := (unhide HRT).below hb12
      have hGd := grownBy_then hG hb12
      have hwd : w.heap.size ≤ w2.drew.heap.size := hGd.size
      have hrm := unhide HROOM
      have hcb : c.k = 1 → getB s' c.n = [] := by obtain ⟨c', r', e, h⟩ := (unhide HNX).head; simp only [List.cons.injEq] at e; obtain ⟨rfl, _⟩ := e; exact h
      have hdb : d.k = 1 → getB s' d.n = [] := by obtain ⟨c', r', e, h⟩ := (unhide HNY).head; simp only [List.cons.injEq] at e; obtain ⟨rfl, _⟩ := e; exact h
      have hcok : okC c = true := hxt.2 c (by simp)
      have hdok : okC d = true := hyt.2 d (by simp)
      have hgl : ∀ v, (getB s' v).length ≤ 1048576 := fun v => Nat.le_trans (hrm.getlen v) (by omega)
      -- what is left where a variable has been bound
      have HBIND : Hid (∀ (v : Int) (z : List C) (w3 : World) (u : Value) (n' : Nat), getB s' v = [] → (0 ≤ v ∧ v ≤ 99999) → Trm z → z.length ≤ 40 → ¬ Reach s' z v → Uni n' (s' ++ [⟨v, z⟩]) r res sf → OwnB w3 lo w3.heap.size u (s' ++ [⟨v, z⟩]) → w2.drew.grownBy w3 (Value.slice sa s'.length sc).ownBlock → (∀ k, u.ownBlock = some k → (Value.slice sa s'.length sc).ownBlock = some k ∨ w2.drew.heap.size ≤ k) → UniAt sf res lo w (.slice ao s.length cap) n' u (.slice (some ⟨lg, 0, none⟩) r.length lc) (.slice (some ⟨rg, 0, none⟩) r.length rc) w3) := by
        intro v z w3 u n' hv hvr hz hzl hnr hU' hOu hgr hub
        obtain ⟨us, e1, e2, e3, e4, e5, e6⟩ := hOd
        have hs2 : Room sf (s' ++ [⟨v, z⟩]) r := hrm.bind hv hvr hz hzl hnr (hU'.ok (hrm.ok.bind hv hz hnr) (fun p hp => hrm.prs p (by simp [hp]))).2.1
        refine ⟨_, r, hU', hs2, hOu, fun k e => ?_, ?_, ?_, unhide HLR, grownBy_on hGd hgr hsb⟩
        · rcases hub k e with h | h
          · exact hsb k h
          · exact .inr (by omega)
        · obtain ⟨lvs, g1, g2, g3⟩ := hLd
          exact Stack.apart ⟨lvs, g1, g2, g3⟩ hgr e2 (by decide) (rows_apart g1 e2 (by decide))
        · obtain ⟨lvs, g1, g2, g3⟩ := hRd
          exact Stack.apart ⟨lvs, g1, g2, g3⟩ hgr e2 (by decide) (rows_apart g1 e2 (by decide))
      have HFAIL : Hid (res = none → ∀ w3, Below w2.drew.heap.size w2.drew w3 → UnOut res lo (.slice ao s.length cap) w (.returned (.tuple #[.slice (some ⟨w3.heap.size, 0, none⟩) 0 0, .bool false])) (w3.alloc (.cells #[] 124))) := by
        rintro rfl w3 hb3
        refine ⟨_, rfl, fun s h => (by cases h), grownBy_then (grownBy_then hGd hb3) (cell_below _ _), fun k e => ?_⟩
        have : w3.heap.size = k := by simpa [Value.ownBlock] using e
        exact .inr (by have := hb3.size; omega)
      have heql := eql_cellU d c
      have hneq := neq_cell c d
      have hTOT := room_tot hrm
      have HHU := hide (unhide HC)
      clear HC
      rcases unhide HHU with h | h | h | h | h | h
      · -- the same name, or variable, or number
        obtain ⟨n', c', xs, ys, rfl, ex, ey, hxs, hys, hxn, hyn, hU'⟩ := h
        simp only [List.cons.injEq] at ex ey
        obtain ⟨rfl, hq⟩ := ex
        obtain ⟨hdc, hq'⟩ := ey
        have hroom := hrm.args (by have h := unhide HNX; rw [hq] at h; exact h) (by have h := unhide HNY; rw [hq', hdc] at h; exact h) hxs hys hxn hyn
        have HQ := hide hq
        have HQ' := hide hq'
        clear hq hq'
        have hct := hroom.count
        have hsm : same d c = true := (same_iff d c).2 hdc
        have HDC := hide hdc
        clear hdc
        by_cases hk : c.k = 1
        · have hkb : (c.k == 1) = true := by simpa using hk
          have h0 : xs = [] := List.length_eq_zero_iff.1 (by simpa [ari, hk] using hxn)
          subst h0
          have HN2 : Hid (UniAt sf res lo w (.slice ao s.length cap) n' (.slice sa s'.length sc) (.slice (some ⟨lg, 0, none⟩) r.length lc) (.slice (some ⟨rg, 0, none⟩) r.length rc) w2.drew) := ⟨s', r, by simpa using hU', by simpa using hroom, hOd.hi_le hb12.size, hsb, hLd, hRd, unhide HLR, hGd⟩
          clear HHU HBIND HFAIL hOd hTx hTy hLd hRd hGd hrm hcb hdb hcok hdok hgl hTOT hU' hk HNX HNY HUU HROOM HL HRT HLR HO hAx hAy hxh hyh hroom
          refine wp_region_any (by kernel_rfl) (wpAny_of_held (S := fun w' => w' = w2.drew) _ _ _ _ ?_)
          refine wpAnyH_take (i := 0) (v := ?v0g) rfl (by kernel_rfl) (by kernel_rfl) (by kernel_rfl) (fun _ _ _ h => h) (Or.inl ⟨by rfl, ?y0g⟩) rfl ?_
          case y0g => (intro w' hw'; subst hw'; go_simp; first | done | with_reducible rfl)
          simp only [Act.put, List.getElem_toArray, List.getElem_cons_zero, List.getElem_cons_succ, List.setIfInBounds_toArray, List.set_cons_zero, List.set_cons_succ]
          refine wpAnyH_take (i := 1) (v := ?v1g) rfl (by kernel_rfl) (by kernel_rfl) (by kernel_rfl) (fun _ _ _ h => h) (Or.inl ⟨by rfl, ?y1g⟩) rfl ?_
          case y1g => (intro w' hw'; subst hw'; go_simp; first | done | with_reducible rfl)
          simp only [Act.put, List.getElem_toArray, List.getElem_cons_zero, List.getElem_cons_succ, List.setIfInBounds_toArray, List.set_cons_zero, List.set_cons_succ]
          refine wpAnyH_take (i := 2) (v := ?v2g) rfl (by kernel_rfl) (by kernel_rfl) (by kernel_rfl) (fun _ _ _ h => h) (Or.inl ⟨by rfl, ?y2g⟩) rfl ?_
          case y2g => (intro w' hw'; subst hw'; go_simp; first | done | with_reducible rfl)
          simp only [Act.put, List.getElem_toArray, List.getElem_cons_zero, List.getElem_cons_succ, List.setIfInBounds_toArray, List.set_cons_zero, List.set_cons_succ]
          refine wpAnyH_take (i := 3) (v := (.int .i64 c.k)) rfl (by kernel_rfl) (by kernel_rfl) (by kernel_rfl) (fun _ _ _ h => h) (Or.inl ⟨by rfl, ?y3g⟩) rfl ?_
          case y3g => (intro w' hw'; subst hw'; go_simp; first | done | with_reducible rfl)
          simp only [Act.put, List.getElem_toArray, List.getElem_cons_zero, List.getElem_cons_succ, List.setIfInBounds_toArray, List.set_cons_zero, List.set_cons_succ]
          refine wpAnyH_take (i := 4) (v := ?v4g) rfl (by kernel_rfl) (by kernel_rfl) (by kernel_rfl) (fun _ _ _ h => h) (Or.inl ⟨by rfl, ?y4g⟩) rfl ?_
          case y4g => (intro w' hw'; subst hw'; go_simp; first | done | with_reducible rfl)
          simp only [Act.put, List.getElem_toArray, List.getElem_cons_zero, List.getElem_cons_succ, List.setIfInBounds_toArray, List.set_cons_zero, List.set_cons_succ]
          refine wpAnyH_take (i := 5) (v := ?v5g) rfl (by kernel_rfl) (by kernel_rfl) (by kernel_rfl) (fun _ _ _ h => h) (Or.inl ⟨by rfl, ?y5g⟩) rfl ?_
          case y5g => (intro w' hw'; subst hw'; go_simp; first | done | with_reducible rfl)
          simp only [Act.put, List.getElem_toArray, List.getElem_cons_zero, List.getElem_cons_succ, List.setIfInBounds_toArray, List.set_cons_zero, List.set_cons_succ]
          refine wpAnyH_take (i := 6) (v := ?v6g) rfl (by kernel_rfl) (by kernel_rfl) (by kernel_rfl) (fun _ _ _ h => h) (Or.inl ⟨by rfl, ?y6g⟩) rfl ?_
          case y6g => (intro w' hw'; subst hw'; go_simp; first | done | with_reducible rfl)
          simp only [Act.put, List.getElem_toArray, List.getElem_cons_zero, List.getElem_cons_succ, List.setIfInBounds_toArray, List.set_cons_zero, List.set_cons_succ]
          refine wpAnyH_take (i := 7) (v := ?v7g) rfl (by kernel_rfl) (by kernel_rfl) (by kernel_rfl) (fun _ _ _ h => h) (Or.inl ⟨by rfl, ?y7g⟩) rfl ?_
          case y7g => (intro w' hw'; subst hw'; go_simp; first | done | with_reducible rfl)
          simp only [Act.put, List.getElem_toArray, List.getElem_cons_zero, List.getElem_cons_succ, List.setIfInBounds_toArray, List.set_cons_zero, List.set_cons_succ]
          refine wpAnyH_take (i := 8) (v := (.agg #[.int .i64 d.k, .int .i64 d.n, .string d.s])) rfl (by kernel_rfl) (by kernel_rfl) (by kernel_rfl) (fun _ _ _ h => h) (Or.inl ⟨by rfl, ?y8g⟩) rfl ?_
          case y8g => (intro w' hw'; subst hw'; go_simp; first | done | with_reducible rfl)
          simp only [Act.put, List.getElem_toArray, List.getElem_cons_zero, List.getElem_cons_succ, List.setIfInBounds_toArray, List.set_cons_zero, List.set_cons_succ]
          refine wpAnyH_take (i := 9) (v := ?v9g) rfl (by kernel_rfl) (by kernel_rfl) (by kernel_rfl) (fun _ _ _ h => h) (Or.inl ⟨by rfl, ?y9g⟩) rfl ?_
          case y9g => (intro w' hw'; subst hw'; go_simp; first | done | with_reducible rfl)
          simp only [Act.put, List.getElem_toArray, List.getElem_cons_zero, List.getElem_cons_succ, List.setIfInBounds_toArray, List.set_cons_zero, List.set_cons_succ]
          refine wpAnyH_take (i := 10) (v := ?v10g) rfl (by kernel_rfl) (by kernel_rfl) (by kernel_rfl) (fun _ _ _ h => h) (Or.inl ⟨by rfl, ?y10g⟩) rfl ?_
          case y10g => (intro w' hw'; subst hw'; go_simp; first | done | with_reducible rfl)
          simp only [Act.put, List.getElem_toArray, List.getElem_cons_zero, List.getElem_cons_succ, List.setIfInBounds_toArray, List.set_cons_zero, List.set_cons_succ]
          refine wpAnyH_take (i := 11) (v := (.agg #[.int .i64 c.k, .int .i64 c.n, .string c.s])) rfl (by kernel_rfl) (by kernel_rfl) (by kernel_rfl) (fun _ _ _ h => h) (Or.inl ⟨by rfl, ?y11g⟩) rfl ?_
          case y11g => (intro w' hw'; subst hw'; go_simp; first | done | with_reducible rfl)
          simp only [Act.put, List.getElem_toArray, List.getElem_cons_zero, List.getElem_cons_succ, List.setIfInBounds_toArray, List.set_cons_zero, List.set_cons_succ]
          refine wpAnyH_take (i := 12) (v := (.bool (same d c))) rfl (by kernel_rfl) (by kernel_rfl) (by kernel_rfl) (fun _ _ _ h => h) (Or.inl ⟨by rfl, ?y12g⟩) rfl ?_
          case y12g => (intro w' hw'; subst hw'; go_simp; first | done | with_reducible rfl)
          simp only [Act.put, List.getElem_toArray, List.getElem_cons_zero, List.getElem_cons_succ, List.setIfInBounds_toArray, List.set_cons_zero, List.set_cons_succ]
          refine wpAnyH_take (i := 13) (v := (.bool (same d c))) rfl (by kernel_rfl) (by kernel_rfl) (by kernel_rfl) (fun _ _ _ h => h) (Or.inl ⟨by rfl, ?y13g⟩) rfl ?_
          case y13g => (intro w' hw'; subst hw'; go_simp; first | done | with_reducible rfl)
          simp only [Act.put, List.getElem_toArray, List.getElem_cons_zero, List.getElem_cons_succ, List.setIfInBounds_toArray, List.set_cons_zero, List.set_cons_succ]
          refine wpAnyH_take (i := 14) (v := ?v14g) rfl (by kernel_rfl) (by kernel_rfl) (by kernel_rfl) (fun _ _ _ h => h) (Or.inl ⟨by rfl, ?y14g⟩) rfl ?_
          case y14g => (intro w' hw'; subst hw'; go_simp; first | done | with_reducible rfl)
          simp only [Act.put, List.getElem_toArray, List.getElem_cons_zero, List.getElem_cons_succ, List.setIfInBounds_toArray, List.set_cons_zero, List.set_cons_succ]
          refine wpAnyH_done (by kernel_rfl) ?_ _
          rw [hsm]
          go_wp2
          go_roundg n'
          case rel => exact unhide HN2
          case measure => omega
        · have hkb : (c.k == 1) = false := by simpa using hk
          have hdkb : (d.k == 1) = false := by rw [unhide HDC]; exact hkb
          have hsm2 : (!same c d) = false := by rw [(same_iff c d).2 (unhide HDC).symm]; rfl
          have h3 : xs.length ≤ 3 := by have := (ari_ok hcok).2; omega
          have hlxy : xs.length = ys.length := by omega
          have hx40 : (c :: q).length ≤ 40 := hxl
          have hy40 : (d :: q').length ≤ 40 := hyl
          have htx : trm (c :: q) = true := by obtain ⟨⟨fx, hfx⟩, hox⟩ := hxt; exact tree_trm hfx hx40 hox
          have hty : trm (d :: q') = true := by obtain ⟨⟨fy, hfy⟩, hoy⟩ := hyt; exact tree_trm hfy hy40 hoy
          obtain ⟨fx, hfx⟩ := trms_fuel xs hxs
          obtain ⟨fy, hfy⟩ := trms_fuel ys hys
          have HPX : Hid (∀ j, (h : j < xs.length) → 1 ≤ xs[j].length) := fun j h => List.length_pos_iff.2 (hxs _ (List.getElem_mem h)).ne
          have HPY : Hid (∀ j, (h : j < ys.length) → 1 ≤ ys[j].length) := fun j h => List.length_pos_iff.2 (hys _ (List.getElem_mem h)).ne
          have HAX : Hid (∀ j, (h : j < xs.length) → argOf (c :: q) (j : Int) = xs[j]) := fun j h => by
            have h1 := htx; rw [unhide HQ] at h1; rw [unhide HQ, argOf_at (f := fx) h1 hxn hfx (by omega)]
            simp [h]
          have HAY : Hid (∀ j, (h : j < ys.length) → argOf (d :: q') (j : Int) = ys[j]) := fun j h => by
            have h1 := hty; rw [unhide HQ'] at h1; rw [unhide HQ', argOf_at (f := fy) h1 (unhide HDC ▸ hyn) hfy (by omega)]
            simp [h]
          have HU' := hide hU'
          have HRM := hide hroom
          have HTX := hide hTx
          have HTY := hide hTy
          have HO2 := hide hOd
          have HL2 := hide hLd
          have HR2 := hide hRd
          have HG2 := hide hGd
          have HXN := hide hxn
          have HCOK := hide hcok
          clear HHU HBIND HFAIL hOd hTx hTy hLd hRd hGd hrm hcb hdb hcok hdok hgl hTOT hU' HNX HNY HUU HROOM HL HRT HO hAx hAy hxh hyh hroom hfx hfy hxs hys hxt hyt
          refine wp_region_any (by kernel_rfl) (wpAny_of_held (S := fun w' => w' = w2.drew) _ _ _ _ ?_)
          refine wpAnyH_take (i := 0) (v := ?v0h) rfl (by kernel_rfl) (by kernel_rfl) (by kernel_rfl) (fun _ _ _ h => h) (Or.inl ⟨by rfl, ?y0h⟩) rfl ?_
          case y0h => (intro w' hw'; subst hw'; go_simp; first | done | with_reducible rfl)
          simp only [Act.put, List.getElem_toArray, List.getElem_cons_zero, List.getElem_cons_succ, List.setIfInBounds_toArray, List.set_cons_zero, List.set_cons_succ]
          refine wpAnyH_take (i := 1) (v := ?v1h) rfl (by kernel_rfl) (by kernel_rfl) (by kernel_rfl) (fun _ _ _ h => h) (Or.inl ⟨by rfl, ?y1h⟩) rfl ?_
          case y1h => (intro w' hw'; subst hw'; go_simp; first | done | with_reducible rfl)
          simp only [Act.put, List.getElem_toArray, List.getElem_cons_zero, List.getElem_cons_succ, List.setIfInBounds_toArray, List.set_cons_zero, List.set_cons_succ]
          refine wpAnyH_take (i := 2) (v := ?v2h) rfl (by kernel_rfl) (by kernel_rfl) (by kernel_rfl) (fun _ _ _ h => h) (Or.inl ⟨by rfl, ?y2h⟩) rfl ?_
          case y2h => (intro w' hw'; subst hw'; go_simp; first | done | with_reducible rfl)
          simp only [Act.put, List.getElem_toArray, List.getElem_cons_zero, List.getElem_cons_succ, List.setIfInBounds_toArray, List.set_cons_zero, List.set_cons_succ]
          refine wpAnyH_take (i := 3) (v := (.int .i64 c.k)) rfl (by kernel_rfl) (by kernel_rfl) (by kernel_rfl) (fun _ _ _ h => h) (Or.inl ⟨by rfl, ?y3h⟩) rfl ?_
          case y3h => (intro w' hw'; subst hw'; go_simp; first | done | with_reducible rfl)
          simp only [Act.put, List.getElem_toArray, List.getElem_cons_zero, List.getElem_cons_succ, List.setIfInBounds_toArray, List.set_cons_zero, List.set_cons_succ]
          refine wpAnyH_take (i := 4) (v := ?v4h) rfl (by kernel_rfl) (by kernel_rfl) (by kernel_rfl) (fun _ _ _ h => h) (Or.inl ⟨by rfl, ?y4h⟩) rfl ?_
          case y4h => (intro w' hw'; subst hw'; go_simp; first | done | with_reducible rfl)
          simp only [Act.put, List.getElem_toArray, List.getElem_cons_zero, List.getElem_cons_succ, List.setIfInBounds_toArray, List.set_cons_zero, List.set_cons_succ]
          refine wpAnyH_take (i := 5) (v := ?v5h) rfl (by kernel_rfl) (by kernel_rfl) (by kernel_rfl) (fun _ _ _ h => h) (Or.inl ⟨by rfl, ?y5h⟩) rfl ?_
          case y5h => (intro w' hw'; subst hw'; go_simp; first | done | with_reducible rfl)
          simp only [Act.put, List.getElem_toArray, List.getElem_cons_zero, List.getElem_cons_succ, List.setIfInBounds_toArray, List.set_cons_zero, List.set_cons_succ]
          refine wpAnyH_take (i := 6) (v := undef) rfl (by kernel_rfl) (by kernel_rfl) (by kernel_rfl) (fun _ _ _ h => h) (Or.inr ⟨by rfl, rfl⟩) rfl ?_
          simp only [Act.put, List.getElem_toArray, List.getElem_cons_zero, List.getElem_cons_succ, List.setIfInBounds_toArray, List.set_cons_zero, List.set_cons_succ]
          refine wpAnyH_take (i := 7) (v := undef) rfl (by kernel_rfl) (by kernel_rfl) (by kernel_rfl) (fun _ _ _ h => h) (Or.inr ⟨by rfl, rfl⟩) rfl ?_
          simp only [Act.put, List.getElem_toArray, List.getElem_cons_zero, List.getElem_cons_succ, List.setIfInBounds_toArray, List.set_cons_zero, List.set_cons_succ]
          refine wpAnyH_take (i := 8) (v := undef) rfl (by kernel_rfl) (by kernel_rfl) (by kernel_rfl) (fun _ _ _ h => h) (Or.inr ⟨by rfl, rfl⟩) rfl ?_
          simp only [Act.put, List.getElem_toArray, List.getElem_cons_zero, List.getElem_cons_succ, List.setIfInBounds_toArray, List.set_cons_zero, List.set_cons_succ]
          refine wpAnyH_take (i := 9) (v := undef) rfl (by kernel_rfl) (by kernel_rfl) (by kernel_rfl) (fun _ _ _ h => h) (Or.inr ⟨by rfl, rfl⟩) rfl ?_
          simp only [Act.put, List.getElem_toArray, List.getElem_cons_zero, List.getElem_cons_succ, List.setIfInBounds_toArray, List.set_cons_zero, List.set_cons_succ]
          refine wpAnyH_take (i := 10) (v := undef) rfl (by kernel_rfl) (by kernel_rfl) (by kernel_rfl) (fun _ _ _ h => h) (Or.inr ⟨by rfl, rfl⟩) rfl ?_
          simp only [Act.put, List.getElem_toArray, List.getElem_cons_zero, List.getElem_cons_succ, List.setIfInBounds_toArray, List.set_cons_zero, List.set_cons_succ]
          refine wpAnyH_take (i := 11) (v := undef) rfl (by kernel_rfl) (by kernel_rfl) (by kernel_rfl) (fun _ _ _ h => h) (Or.inr ⟨by rfl, rfl⟩) rfl ?_
          simp only [Act.put, List.getElem_toArray, List.getElem_cons_zero, List.getElem_cons_succ, List.setIfInBounds_toArray, List.set_cons_zero, List.set_cons_succ]
          refine wpAnyH_take (i := 12) (v := undef) rfl (by kernel_rfl) (by kernel_rfl) (by kernel_rfl) (fun _ _ _ h => h) (Or.inr ⟨by rfl, rfl⟩) rfl ?_
          simp only [Act.put, List.getElem_toArray, List.getElem_cons_zero, List.getElem_cons_succ, List.setIfInBounds_toArray, List.set_cons_zero, List.set_cons_succ]
          refine wpAnyH_take (i := 13) (v := (.bool false)) rfl (by kernel_rfl) (by kernel_rfl) (by kernel_rfl) (fun _ _ _ h => h) (Or.inl ⟨by rfl, ?y13h⟩) rfl ?_
          case y13h => (intro w' hw'; subst hw'; go_simp; first | done | with_reducible rfl)
          simp only [Act.put, List.getElem_toArray, List.getElem_cons_zero, List.getElem_cons_succ, List.setIfInBounds_toArray, List.set_cons_zero, List.set_cons_succ]
          refine wpAnyH_take (i := 14) (v := ?v14h) rfl (by kernel_rfl) (by kernel_rfl) (by kernel_rfl) (fun _ _ _ h => h) (Or.inl ⟨by rfl, ?y14h⟩) rfl ?_
          case y14h => (intro w' hw'; subst hw'; go_simp; first | done | with_reducible rfl)
          simp only [Act.put, List.getElem_toArray, List.getElem_cons_zero, List.getElem_cons_succ, List.setIfInBounds_toArray, List.set_cons_zero, List.set_cons_succ]
          refine wpAnyH_done (by kernel_rfl) ?_ _
          go_wp2
          refine wp_region_any (by kernel_rfl) (wpAny_of_held (S := fun w' => w' = w2.drew.drew) _ _ _ _ ?_)
          refine wpAnyH_take (i := 0) (v := ?v0i) rfl (by kernel_rfl) (by kernel_rfl) (by kernel_rfl) (fun _ _ _ h => h) (Or.inl ⟨by rfl, ?y0i⟩) rfl ?_
          case y0i => (intro w' hw'; subst hw'; go_simp; first | done | with_reducible rfl)
          simp only [Act.put, List.getElem_toArray, List.getElem_cons_zero, List.getElem_cons_succ, List.setIfInBounds_toArray, List.set_cons_zero, List.set_cons_succ]
          refine wpAnyH_take (i := 1) (v := ?v1i) rfl (by kernel_rfl) (by kernel_rfl) (by kernel_rfl) (fun _ _ _ h => h) (Or.inl ⟨by rfl, ?y1i⟩) rfl ?_
          case y1i => (intro w' hw'; subst hw'; go_simp; first | done | with_reducible rfl)
          simp only [Act.put, List.getElem_toArray, List.getElem_cons_zero, List.getElem_cons_succ, List.setIfInBounds_toArray, List.set_cons_zero, List.set_cons_succ]
          refine wpAnyH_take (i := 2) (v := (.agg #[.int .i64 c.k, .int .i64 c.n, .string c.s])) rfl (by kernel_rfl) (by kernel_rfl) (by kernel_rfl) (fun _ _ _ h => h) (Or.inl ⟨by rfl, ?y2i⟩) rfl ?_
          case y2i => (intro w' hw'; subst hw'; go_simp; first | done | with_reducible rfl)
          simp only [Act.put, List.getElem_toArray, List.getElem_cons_zero, List.getElem_cons_succ, List.setIfInBounds_toArray, List.set_cons_zero, List.set_cons_succ]
          refine wpAnyH_take (i := 3) (v := ?v3i) rfl (by kernel_rfl) (by kernel_rfl) (by kernel_rfl) (fun _ _ _ h => h) (Or.inl ⟨by rfl, ?y3i⟩) rfl ?_
          case y3i => (intro w' hw'; subst hw'; go_simp; first | done | with_reducible rfl)
          simp only [Act.put, List.getElem_toArray, List.getElem_cons_zero, List.getElem_cons_succ, List.setIfInBounds_toArray, List.set_cons_zero, List.set_cons_succ]
          refine wpAnyH_take (i := 4) (v := ?v4i) rfl (by kernel_rfl) (by kernel_rfl) (by kernel_rfl) (fun _ _ _ h => h) (Or.inl ⟨by rfl, ?y4i⟩) rfl ?_
          case y4i => (intro w' hw'; subst hw'; go_simp; first | done | with_reducible rfl)
          simp only [Act.put, List.getElem_toArray, List.getElem_cons_zero, List.getElem_cons_succ, List.setIfInBounds_toArray, List.set_cons_zero, List.set_cons_succ]
          refine wpAnyH_take (i := 5) (v := (.agg #[.int .i64 d.k, .int .i64 d.n, .string d.s])) rfl (by kernel_rfl) (by kernel_rfl) (by kernel_rfl) (fun _ _ _ h => h) (Or.inl ⟨by rfl, ?y5i⟩) rfl ?_
          case y5i => (intro w' hw'; subst hw'; go_simp; first | done | with_reducible rfl)
          simp only [Act.put, List.getElem_toArray, List.getElem_cons_zero, List.getElem_cons_succ, List.setIfInBounds_toArray, List.set_cons_zero, List.set_cons_succ]
          refine wpAnyH_take (i := 6) (v := (.bool (!same c d))) rfl (by kernel_rfl) (by kernel_rfl) (by kernel_rfl) (fun _ _ _ h => h) (Or.inl ⟨by rfl, ?y6i⟩) rfl ?_
          case y6i => (intro w' hw'; subst hw'; go_simp; first | done | with_reducible rfl)
          simp only [Act.put, List.getElem_toArray, List.getElem_cons_zero, List.getElem_cons_succ, List.setIfInBounds_toArray, List.set_cons_zero, List.set_cons_succ]
          refine wpAnyH_take (i := 7) (v := ?v7i) rfl (by kernel_rfl) (by kernel_rfl) (by kernel_rfl) (fun _ _ _ h => h) (Or.inl ⟨by rfl, ?y7i⟩) rfl ?_
          case y7i => (intro w' hw'; subst hw'; go_simp; first | done | with_reducible rfl)
          simp only [Act.put, List.getElem_toArray, List.getElem_cons_zero, List.getElem_cons_succ, List.setIfInBounds_toArray, List.set_cons_zero, List.set_cons_succ]
          refine wpAnyH_done (by kernel_rfl) ?_ _
          rw [hsm2]
          obtain ⟨k0, hk0, hkz, hks, hkb0⟩ := info_parts (show (Try.prog.info? 28).map (fun i => (i.zero, i.size, i.bytes)) = some (some (.slice none 0 0), 1, 24) by kernel_rfl)
          have HPS : Hid (PairSt s' lo w (.slice ao s.length cap) (.slice sa s'.length sc) (.slice (some ⟨xb, xo, none⟩) (q.length + 1) xc) (.slice (some ⟨yb, yo, none⟩) (q'.length + 1) yc) (c :: q) (d :: q') (.slice (some ⟨lg, 0, none⟩) r.length lc) (.slice (some ⟨rg, 0, none⟩) r.length rc) (r.map (·.1)) (r.map (·.2)) w2.drew.drew) := PairSt.below ⟨(unhide HO2).hi_le hb12.size, unhide HL2, unhide HR2, unhide HLR, unhide HTX, unhide HTY, unhide HG2⟩ (Below.refl _ _).drew
          clear HO2 HL2 HR2 HTX HTY HG2 HLR
          have x0' : w2.drew.drew.cell? ⟨xb, xo, none⟩ = some (.int .i64 c.k) := x0
          have x1' : w2.drew.drew.cell? ⟨xb, xo + 1, none⟩ = some (.int .i64 c.n) := x1
          have hcn : -100000 ≤ c.n ∧ c.n ≤ 99999 := okC_num (unhide HCOK)
          change Exit.then _ _ _ _ (World.drew (World.drew w2))
          generalize w2.drew.drew = W4 at HPS x0' x1' ⊢
          go_wp2
          go_loopw [8, 9, 13] (fun lv rv i wq => ∃ (j : Nat) (z : Int), j ≤ xs.length ∧ i = .int .i64 z ∧ (c.k = 3 → z = (j : Int) - 1) ∧ (c.k ≠ 3 → j = 0) ∧ (-100001 ≤ z ∧ z ≤ 100000) ∧ PairSt s' lo w (.slice ao s.length cap) (.slice sa s'.length sc) (.slice (some ⟨xb, xo, none⟩) (q.length + 1) xc) (.slice (some ⟨yb, yo, none⟩) (q'.length + 1) yc) (c :: q) (d :: q') lv rv (xs.drop j ++ r.map (·.1)) (ys.drop j ++ r.map (·.2)) wq) (fun _ _ i _ => (intOf i + 1).toNat)
          case atStart =>
            refine ⟨xs.length, c.n - 1, Nat.le_refl _, by go_num, fun h => ?_, fun h => ?_, by omega, ?_⟩
            · have := unhide HXN
              simp [ari, h] at this
              omega
            · have := unhide HXN
              simp [ari, h] at this
              simp [this]
            · rw [List.drop_length, show ys.drop xs.length = [] by rw [hlxy]; exact List.drop_length ..]
              exact unhide HPS
          case round =>
            clear HPS x0' x1' x0 x1 x2 y0 y1 y2
            obtain ⟨j, z, hj, rfl, hz3, hz0, hzb, hP⟩ := hrel
            obtain ⟨hAx, hAxr⟩ : At wr xb xo (c :: q) ∧ True := ⟨by obtain ⟨b', o', cp', cur', e, h, _⟩ := hP.tx; simp only [List.length_cons, Value.slice.injEq, Option.some.injEq, Addr.mk.injEq] at e; obtain ⟨⟨rfl, rfl, _⟩, _⟩ := e; exact h, trivial⟩
            obtain ⟨f0, f1, f2⟩ := hAx 0 (by simp)
            simp only [List.getElem_cons_zero, Nat.zero_mul, Nat.add_zero] at f0 f1 f2
            by_cases hgo : c.k = 3 ∧ 1 ≤ j
            · obtain ⟨j', rfl⟩ : ∃ j', j = j' + 1 := ⟨j - 1, by omega⟩
              have hzz : z = (j' : Int) := by have := hz3 hgo.1; omega
              subst hzz
              have hk3 : (c.k == 3) = true := by simpa using hgo.1
              have hjx : j' < xs.length := by omega
              have hjy : j' < ys.length := by omega
              have hAy : At wr yb yo (d :: q') := by obtain ⟨b', o', cp', cur', e, h, _⟩ := hP.ty; simp only [List.length_cons, Value.slice.injEq, Option.some.injEq, Addr.mk.injEq] at e; obtain ⟨⟨rfl, rfl, _⟩, _⟩ := e; exact h
              have HA1 := hide (l1Arg_any (some ⟨xb, xo, none⟩) xc (c :: q) (j' : Int) wr htx (by simpa using hx1) hx2 (.inr ⟨xb, xo, rfl, hAx⟩))
              have HA2 := hide (fun (w' : World) (hA : At w' yb yo (d :: q')) => l1Arg_any (some ⟨yb, yo, none⟩) yc (d :: q') (j' : Int) w' hty (by simpa using hy1) hy2 (.inr ⟨yb, yo, rfl, hA⟩))
              rw [unhide HAX j' hjx] at HA1
              simp only [unhide HAY j' hjy] at HA2
              simp only [List.length_cons] at HA1 HA2
              have HD1 : Hid (xs.drop j' = xs[j'] :: xs.drop (j' + 1)) := List.drop_eq_getElem_cons hjx
              have HD2 : Hid (ys.drop j' = ys[j'] :: ys.drop (j' + 1)) := List.drop_eq_getElem_cons hjy
              have hp1 := unhide HPX j' hjx
              have hp2 := unhide HPY j' hjy
              obtain ⟨tx, htx'⟩ : ∃ t, t = xs[j'] := ⟨_, rfl⟩
              obtain ⟨ty, hty'⟩ : ∃ t, t = ys[j'] := ⟨_, rfl⟩
              rw [← htx'] at HA1 HD1 hp1
              simp only [← hty'] at HA2 HD2 hp2
              clear htx' hty'
              have hn1 : (xs.drop (j' + 1) ++ r.map (·.1)).length ≤ 8400010 := by simp; omega
              have hn2 : (ys.drop (j' + 1) ++ r.map (·.2)).length ≤ 8400010 := by simp; omega
              obtain ⟨tl, htl⟩ : ∃ t, t = xs.drop (j' + 1) ++ r.map (·.1) := ⟨_, rfl⟩
              obtain ⟨tr, htr⟩ : ∃ t, t = ys.drop (j' + 1) ++ r.map (·.2) := ⟨_, rfl⟩
              rw [← htl] at hP hn1
              rw [← htr] at hP hn2
              have HTL := hide htl
              have HTR := hide htr
              have HP := hide hP
              have hws := hP.grown.size
              clear htl htr hP hAx hAy HAX HAY hgo hz3 hz0
              go_wp2_with (first | (go_at_call 62; refine (unhide HA1).mono ?_; clear HA1; rintro e w3 ⟨u1, rfl, hu1, hb3⟩; have hT1 := own_tdT hu1 hp1; clear hu1; have hP3 := (unhide HP).below hb3; clear HP; have hws3 := hb3.size; obtain ⟨lvs, l1, l2, l3⟩ := hP3.left; have HT1 := hide hT1; obtain ⟨ub, uo, uc, ucur, rfl, _⟩ := hT1; have HP3 := hide hP3; clear hP3) | (at_builtin; refine wpList_append_lies _ rfl _ _ 90 rfl w.heap.size 28 k0 _ 1 24 Try.underlying90 hk0 hkz hks hkb0 rfl (by decide) _ tl.length _ rfl (World.ownsRow.alloc l1 _) ⟨w3.heap.size, 0, none⟩ 1 1 [.slice (some ⟨ub, uo, none⟩) tx.length uc] rfl rfl (cell_one_new _ _ _) (by simp [Value.oneCell']) (by omega) (by unfold maxLen; omega) (by omega) (by simp; omega) (w3.heap.size + 1) (by simp) ?_; intro g1 cap1 w4 hown1 hgr1 hat1 hgl1; have hP4 := (unhide HP3).push l1 l2 l3 (unhide HT1) _ hown1 hgr1 hat1; clear HP3 l1 l2 l3 HT1 hown1 hgr1 hat1; have hAy4 : At w4 yb yo (d :: q') := (by obtain ⟨b', o', cp', cur', e, h, _⟩ := hP4.ty; simp only [List.length_cons, Value.slice.injEq, Option.some.injEq, Addr.mk.injEq] at e; obtain ⟨⟨rfl, rfl, _⟩, _⟩ := e; exact h); have hws4 := hP4.grown.size; have HP4 := hide hP4; clear hP4; have HA3 := hide (unhide HA2 w4 hAy4); clear HA2 hAy4) | (go_at_call 62; refine (unhide HA3).mono ?_; clear HA3; rintro e w5 ⟨u2, rfl, hu2, hb5⟩; have hT2 := own_tdT hu2 hp2; clear hu2; have hP5 := ((unhide HP4).below hb5).swap; clear HP4; have hws5 := hb5.size; obtain ⟨rvs, r1, r2, r3⟩ := hP5.left; have HT2 := hide hT2; obtain ⟨vb, vo, vc, vcur, rfl, _⟩ := hT2; have HP5 := hide hP5; clear hP5) | (at_builtin; refine wpList_append_lies _ rfl _ _ 90 rfl w.heap.size 28 k0 _ 1 24 Try.underlying90 hk0 hkz hks hkb0 rfl (by decide) _ tr.length _ rfl (World.ownsRow.alloc r1 _) ⟨w5.heap.size, 0, none⟩ 1 1 [.slice (some ⟨vb, vo, none⟩) ty.length vc] rfl rfl (cell_one_new _ _ _) (by simp [Value.oneCell']) (by omega) (by unfold maxLen; omega) (by omega) (by simp; omega) (w5.heap.size + 1) (by simp) ?_; intro g2 cap2 w6 hown2 hgr2 hat2 hgl2; have HP6 := hide (((unhide HP5).push r1 r2 r3 (unhide HT2) _ hown2 hgr2 hat2).swap); clear HP5 r1 r2 r3 HT2 hown2 hgr2 hat2))
              go_roundw
              case rel =>
                refine ⟨j', (j' : Int) - 1, by omega, by go_num, fun _ => rfl, fun h => absurd (by simpa using hk3) h, by omega, ?_⟩
                rw [unhide HD1, unhide HD2, List.cons_append, List.cons_append, ← unhide HTL, ← unhide HTR]
                exact unhide HP6
              case measure => simp [intOf]
            · have hj0 : j = 0 := by
                by_cases h3 : c.k = 3
                · omega
                · exact hz0 h3
              subst hj0
              rw [List.drop_zero, List.drop_zero, show xs ++ r.map (·.1) = (xs.zip ys ++ r).map (·.1) by rw [List.map_append, List.map_fst_zip (by omega)], show ys ++ r.map (·.2) = (xs.zip ys ++ r).map (·.2) by rw [List.map_append, List.map_snd_zip (by omega)]] at hP
              have HNX2 := hide (uniAt_of (unhide HU') (unhide HRM) hsb hP)
              by_cases h3 : c.k = 3
              · have hk3 : (c.k == 3) = true := by simpa using h3
                have hzn : ¬ (0 ≤ z) := by have := hz3 h3; omega
                have hzd : decide (0 ≤ z) = false := by simpa using hzn
                clear hP hgo hz3 hz0
                go_wp2
                go_roundg n'
                case rel => exact unhide HNX2
                case measure => omega
              · have hk3 : (c.k == 3) = false := by simpa using h3
                clear hP hgo hz3 hz0
                go_wp2
                go_roundg n'
                case rel => exact unhide HNX2
                case measure => omega
      · -- a variable on the left
        obtain ⟨n', c', rfl, ex, hk, hne, hnr, hU'⟩ := h
        simp only [List.cons.injEq] at ex
        obtain ⟨rfl, rfl⟩ := ex
        have hsm : same d c = false := by
          cases hs : same d c with
          | false => rfl
          | true => exact absurd (by rw [(same_iff d c).1 hs]; rfl) hne
        have hkb : (c.k == 1) = true := by simpa using hk
        have HBD := hide (l2Bind_yes sa sc lo wr.heap.size s' c.n _ (d :: q') w2.drew (by omega) (by simp) (by omega) hTOT hgl hb12.size (by omega) hOd hTy hnr)
        have HNXT := hide (fun (w3 : World) (u : Value) => unhide HBIND c.n (d :: q') w3 u n' (hcb hk) (okC_var hcok hk) hyt hyl hnr hU')
        clear HHU HBIND HFAIL hOd hTx hTy hLd hRd hGd hrm hcb hdb hcok hdok hgl hTOT hnr hU' hne hk HNX HNY HUU HROOM HL HRT HLR HO hAx hAy hxh hyh
        simp only [List.length_cons] at HBD HNXT
        refine wp_region_any (by kernel_rfl) (wpAny_of_held (S := fun w' => w' = w2.drew) _ _ _ _ ?_)
        refine wpAnyH_take (i := 0) (v := ?v0a) rfl (by kernel_rfl) (by kernel_rfl) (by kernel_rfl) (fun _ _ _ h => h) (Or.inl ⟨by rfl, ?y0a⟩) rfl ?_
        case y0a => (intro w' hw'; subst hw'; go_simp; first | done | with_reducible rfl)
        simp only [Act.put, List.getElem_toArray, List.getElem_cons_zero, List.getElem_cons_succ, List.setIfInBounds_toArray, List.set_cons_zero, List.set_cons_succ]
        refine wpAnyH_take (i := 1) (v := ?v1a) rfl (by kernel_rfl) (by kernel_rfl) (by kernel_rfl) (fun _ _ _ h => h) (Or.inl ⟨by rfl, ?y1a⟩) rfl ?_
        case y1a => (intro w' hw'; subst hw'; go_simp; first | done | with_reducible rfl)
        simp only [Act.put, List.getElem_toArray, List.getElem_cons_zero, List.getElem_cons_succ, List.setIfInBounds_toArray, List.set_cons_zero, List.set_cons_succ]
        refine wpAnyH_take (i := 2) (v := ?v2a) rfl (by kernel_rfl) (by kernel_rfl) (by kernel_rfl) (fun _ _ _ h => h) (Or.inl ⟨by rfl, ?y2a⟩) rfl ?_
        case y2a => (intro w' hw'; subst hw'; go_simp; first | done | with_reducible rfl)
        simp only [Act.put, List.getElem_toArray, List.getElem_cons_zero, List.getElem_cons_succ, List.setIfInBounds_toArray, List.set_cons_zero, List.set_cons_succ]
        refine wpAnyH_take (i := 3) (v := (.int .i64 c.k)) rfl (by kernel_rfl) (by kernel_rfl) (by kernel_rfl) (fun _ _ _ h => h) (Or.inl ⟨by rfl, ?y3a⟩) rfl ?_
        case y3a => (intro w' hw'; subst hw'; go_simp; first | done | with_reducible rfl)
        simp only [Act.put, List.getElem_toArray, List.getElem_cons_zero, List.getElem_cons_succ, List.setIfInBounds_toArray, List.set_cons_zero, List.set_cons_succ]
        refine wpAnyH_take (i := 4) (v := ?v4a) rfl (by kernel_rfl) (by kernel_rfl) (by kernel_rfl) (fun _ _ _ h => h) (Or.inl ⟨by rfl, ?y4a⟩) rfl ?_
        case y4a => (intro w' hw'; subst hw'; go_simp; first | done | with_reducible rfl)
        simp only [Act.put, List.getElem_toArray, List.getElem_cons_zero, List.getElem_cons_succ, List.setIfInBounds_toArray, List.set_cons_zero, List.set_cons_succ]
        refine wpAnyH_take (i := 5) (v := ?v5a) rfl (by kernel_rfl) (by kernel_rfl) (by kernel_rfl) (fun _ _ _ h => h) (Or.inl ⟨by rfl, ?y5a⟩) rfl ?_
        case y5a => (intro w' hw'; subst hw'; go_simp; first | done | with_reducible rfl)
        simp only [Act.put, List.getElem_toArray, List.getElem_cons_zero, List.getElem_cons_succ, List.setIfInBounds_toArray, List.set_cons_zero, List.set_cons_succ]
        refine wpAnyH_take (i := 6) (v := ?v6a) rfl (by kernel_rfl) (by kernel_rfl) (by kernel_rfl) (fun _ _ _ h => h) (Or.inl ⟨by rfl, ?y6a⟩) rfl ?_
        case y6a => (intro w' hw'; subst hw'; go_simp; first | done | with_reducible rfl)
        simp only [Act.put, List.getElem_toArray, List.getElem_cons_zero, List.getElem_cons_succ, List.setIfInBounds_toArray, List.set_cons_zero, List.set_cons_succ]
        refine wpAnyH_take (i := 7) (v := ?v7a) rfl (by kernel_rfl) (by kernel_rfl) (by kernel_rfl) (fun _ _ _ h => h) (Or.inl ⟨by rfl, ?y7a⟩) rfl ?_
        case y7a => (intro w' hw'; subst hw'; go_simp; first | done | with_reducible rfl)
        simp only [Act.put, List.getElem_toArray, List.getElem_cons_zero, List.getElem_cons_succ, List.setIfInBounds_toArray, List.set_cons_zero, List.set_cons_succ]
        refine wpAnyH_take (i := 8) (v := (.agg #[.int .i64 d.k, .int .i64 d.n, .string d.s])) rfl (by kernel_rfl) (by kernel_rfl) (by kernel_rfl) (fun _ _ _ h => h) (Or.inl ⟨by rfl, ?y8a⟩) rfl ?_
        case y8a => (intro w' hw'; subst hw'; go_simp; first | done | with_reducible rfl)
        simp only [Act.put, List.getElem_toArray, List.getElem_cons_zero, List.getElem_cons_succ, List.setIfInBounds_toArray, List.set_cons_zero, List.set_cons_succ]
        refine wpAnyH_take (i := 9) (v := ?v9a) rfl (by kernel_rfl) (by kernel_rfl) (by kernel_rfl) (fun _ _ _ h => h) (Or.inl ⟨by rfl, ?y9a⟩) rfl ?_
        case y9a => (intro w' hw'; subst hw'; go_simp; first | done | with_reducible rfl)
        simp only [Act.put, List.getElem_toArray, List.getElem_cons_zero, List.getElem_cons_succ, List.setIfInBounds_toArray, List.set_cons_zero, List.set_cons_succ]
        refine wpAnyH_take (i := 10) (v := ?v10a) rfl (by kernel_rfl) (by kernel_rfl) (by kernel_rfl) (fun _ _ _ h => h) (Or.inl ⟨by rfl, ?y10a⟩) rfl ?_
        case y10a => (intro w' hw'; subst hw'; go_simp; first | done | with_reducible rfl)
        simp only [Act.put, List.getElem_toArray, List.getElem_cons_zero, List.getElem_cons_succ, List.setIfInBounds_toArray, List.set_cons_zero, List.set_cons_succ]
        refine wpAnyH_take (i := 11) (v := (.agg #[.int .i64 c.k, .int .i64 c.n, .string c.s])) rfl (by kernel_rfl) (by kernel_rfl) (by kernel_rfl) (fun _ _ _ h => h) (Or.inl ⟨by rfl, ?y11a⟩) rfl ?_
        case y11a => (intro w' hw'; subst hw'; go_simp; first | done | with_reducible rfl)
        simp only [Act.put, List.getElem_toArray, List.getElem_cons_zero, List.getElem_cons_succ, List.setIfInBounds_toArray, List.set_cons_zero, List.set_cons_succ]
        refine wpAnyH_take (i := 12) (v := (.bool (same d c))) rfl (by kernel_rfl) (by kernel_rfl) (by kernel_rfl) (fun _ _ _ h => h) (Or.inl ⟨by rfl, ?y12a⟩) rfl ?_
        case y12a => (intro w' hw'; subst hw'; go_simp; first | done | with_reducible rfl)
        simp only [Act.put, List.getElem_toArray, List.getElem_cons_zero, List.getElem_cons_succ, List.setIfInBounds_toArray, List.set_cons_zero, List.set_cons_succ]
        refine wpAnyH_take (i := 13) (v := (.bool (same d c))) rfl (by kernel_rfl) (by kernel_rfl) (by kernel_rfl) (fun _ _ _ h => h) (Or.inl ⟨by rfl, ?y13a⟩) rfl ?_
        case y13a => (intro w' hw'; subst hw'; go_simp; first | done | with_reducible rfl)
        simp only [Act.put, List.getElem_toArray, List.getElem_cons_zero, List.getElem_cons_succ, List.setIfInBounds_toArray, List.set_cons_zero, List.set_cons_succ]
        refine wpAnyH_take (i := 14) (v := ?v14a) rfl (by kernel_rfl) (by kernel_rfl) (by kernel_rfl) (fun _ _ _ h => h) (Or.inl ⟨by rfl, ?y14a⟩) rfl ?_
        case y14a => (intro w' hw'; subst hw'; go_simp; first | done | with_reducible rfl)
        simp only [Act.put, List.getElem_toArray, List.getElem_cons_zero, List.getElem_cons_succ, List.setIfInBounds_toArray, List.set_cons_zero, List.set_cons_succ]
        refine wpAnyH_done (by kernel_rfl) ?_ _
        rw [hsm]
        go_wp2_with (go_at_call 61; refine (unhide HBD).mono ?_; clear HBD; rintro e w3 ⟨u, rfl, hOu, hgr, hub⟩; have HN2 := hide (unhide HNXT w3 u hOu hgr hub); clear HNXT hOu hgr hub)
        go_roundg n'
        case rel => exact unhide HN2
        case measure => omega
      · -- a variable that leads to itself on the left
        obtain ⟨c', ex, hk, hne, hre, hres⟩ := h
        simp only [List.cons.injEq] at ex
        obtain ⟨rfl, rfl⟩ := ex
        have hsm : same d c = false := by
          cases hs : same d c with
          | false => rfl
          | true => exact absurd (by rw [(same_iff d c).1 hs]; rfl) hne
        have hkb : (c.k == 1) = true := by simpa using hk
        have HBD := hide (l2Bind_ring sa sc lo wr.heap.size s' c.n _ (d :: q') w2.drew (by omega) (by omega) hTOT hgl hOd hTy hre)
        have HF2 := hide (unhide HFAIL hres)
        clear HHU HBIND HFAIL hOd hTx hTy hLd hRd hGd hrm hcb hdb hcok hdok hgl hTOT hre hres hne hk HNX HNY HUU HROOM HL HRT HLR HO hAx hAy hxh hyh
        simp only [List.length_cons] at HBD
        refine wp_region_any (by kernel_rfl) (wpAny_of_held (S := fun w' => w' = w2.drew) _ _ _ _ ?_)
        refine wpAnyH_take (i := 0) (v := ?v0b) rfl (by kernel_rfl) (by kernel_rfl) (by kernel_rfl) (fun _ _ _ h => h) (Or.inl ⟨by rfl, ?y0b⟩) rfl ?_
        case y0b => (intro w' hw'; subst hw'; go_simp; first | done | with_reducible rfl)
        simp only [Act.put, List.getElem_toArray, List.getElem_cons_zero, List.getElem_cons_succ, List.setIfInBounds_toArray, List.set_cons_zero, List.set_cons_succ]
        refine wpAnyH_take (i := 1) (v := ?v1b) rfl (by kernel_rfl) (by kernel_rfl) (by kernel_rfl) (fun _ _ _ h => h) (Or.inl ⟨by rfl, ?y1b⟩) rfl ?_
        case y1b => (intro w' hw'; subst hw'; go_simp; first | done | with_reducible rfl)
        simp only [Act.put, List.getElem_toArray, List.getElem_cons_zero, List.getElem_cons_succ, List.setIfInBounds_toArray, List.set_cons_zero, List.set_cons_succ]
        refine wpAnyH_take (i := 2) (v := ?v2b) rfl (by kernel_rfl) (by kernel_rfl) (by kernel_rfl) (fun _ _ _ h => h) (Or.inl ⟨by rfl, ?y2b⟩) rfl ?_
        case y2b => (intro w' hw'; subst hw'; go_simp; first | done | with_reducible rfl)
        simp only [Act.put, List.getElem_toArray, List.getElem_cons_zero, List.getElem_cons_succ, List.setIfInBounds_toArray, List.set_cons_zero, List.set_cons_succ]
        refine wpAnyH_take (i := 3) (v := (.int .i64 c.k)) rfl (by kernel_rfl) (by kernel_rfl) (by kernel_rfl) (fun _ _ _ h => h) (Or.inl ⟨by rfl, ?y3b⟩) rfl ?_
        case y3b => (intro w' hw'; subst hw'; go_simp; first | done | with_reducible rfl)
        simp only [Act.put, List.getElem_toArray, List.getElem_cons_zero, List.getElem_cons_succ, List.setIfInBounds_toArray, List.set_cons_zero, List.set_cons_succ]
        refine wpAnyH_take (i := 4) (v := ?v4b) rfl (by kernel_rfl) (by kernel_rfl) (by kernel_rfl) (fun _ _ _ h => h) (Or.inl ⟨by rfl, ?y4b⟩) rfl ?_
        case y4b => (intro w' hw'; subst hw'; go_simp; first | done | with_reducible rfl)
        simp only [Act.put, List.getElem_toArray, List.getElem_cons_zero, List.getElem_cons_succ, List.setIfInBounds_toArray, List.set_cons_zero, List.set_cons_succ]
        refine wpAnyH_take (i := 5) (v := ?v5b) rfl (by kernel_rfl) (by kernel_rfl) (by kernel_rfl) (fun _ _ _ h => h) (Or.inl ⟨by rfl, ?y5b⟩) rfl ?_
        case y5b => (intro w' hw'; subst hw'; go_simp; first | done | with_reducible rfl)
        simp only [Act.put, List.getElem_toArray, List.getElem_cons_zero, List.getElem_cons_succ, List.setIfInBounds_toArray, List.set_cons_zero, List.set_cons_succ]
        refine wpAnyH_take (i := 6) (v := ?v6b) rfl (by kernel_rfl) (by kernel_rfl) (by kernel_rfl) (fun _ _ _ h => h) (Or.inl ⟨by rfl, ?y6b⟩) rfl ?_
        case y6b => (intro w' hw'; subst hw'; go_simp; first | done | with_reducible rfl)
        simp only [Act.put, List.getElem_toArray, List.getElem_cons_zero, List.getElem_cons_succ, List.setIfInBounds_toArray, List.set_cons_zero, List.set_cons_succ]
        refine wpAnyH_take (i := 7) (v := ?v7b) rfl (by kernel_rfl) (by kernel_rfl) (by kernel_rfl) (fun _ _ _ h => h) (Or.inl ⟨by rfl, ?y7b⟩) rfl ?_
        case y7b => (intro w' hw'; subst hw'; go_simp; first | done | with_reducible rfl)
        simp only [Act.put, List.getElem_toArray, List.getElem_cons_zero, List.getElem_cons_succ, List.setIfInBounds_toArray, List.set_cons_zero, List.set_cons_succ]
        refine wpAnyH_take (i := 8) (v := (.agg #[.int .i64 d.k, .int .i64 d.n, .string d.s])) rfl (by kernel_rfl) (by kernel_rfl) (by kernel_rfl) (fun _ _ _ h => h) (Or.inl ⟨by rfl, ?y8b⟩) rfl ?_
        case y8b => (intro w' hw'; subst hw'; go_simp; first | done | with_reducible rfl)
        simp only [Act.put, List.getElem_toArray, List.getElem_cons_zero, List.getElem_cons_succ, List.setIfInBounds_toArray, List.set_cons_zero, List.set_cons_succ]
        refine wpAnyH_take (i := 9) (v := ?v9b) rfl (by kernel_rfl) (by kernel_rfl) (by kernel_rfl) (fun _ _ _ h => h) (Or.inl ⟨by rfl, ?y9b⟩) rfl ?_
        case y9b => (intro w' hw'; subst hw'; go_simp; first | done | with_reducible rfl)
        simp only [Act.put, List.getElem_toArray, List.getElem_cons_zero, List.getElem_cons_succ, List.setIfInBounds_toArray, List.set_cons_zero, List.set_cons_succ]
        refine wpAnyH_take (i := 10) (v := ?v10b) rfl (by kernel_rfl) (by kernel_rfl) (by kernel_rfl) (fun _ _ _ h => h) (Or.inl ⟨by rfl, ?y10b⟩) rfl ?_
        case y10b => (intro w' hw'; subst hw'; go_simp; first | done | with_reducible rfl)
        simp only [Act.put, List.getElem_toArray, List.getElem_cons_zero, List.getElem_cons_succ, List.setIfInBounds_toArray, List.set_cons_zero, List.set_cons_succ]
        refine wpAnyH_take (i := 11) (v := (.agg #[.int .i64 c.k, .int .i64 c.n, .string c.s])) rfl (by kernel_rfl) (by kernel_rfl) (by kernel_rfl) (fun _ _ _ h => h) (Or.inl ⟨by rfl, ?y11b⟩) rfl ?_
        case y11b => (intro w' hw'; subst hw'; go_simp; first | done | with_reducible rfl)
        simp only [Act.put, List.getElem_toArray, List.getElem_cons_zero, List.getElem_cons_succ, List.setIfInBounds_toArray, List.set_cons_zero, List.set_cons_succ]
        refine wpAnyH_take (i := 12) (v := (.bool (same d c))) rfl (by kernel_rfl) (by kernel_rfl) (by kernel_rfl) (fun _ _ _ h => h) (Or.inl ⟨by rfl, ?y12b⟩) rfl ?_
        case y12b => (intro w' hw'; subst hw'; go_simp; first | done | with_reducible rfl)
        simp only [Act.put, List.getElem_toArray, List.getElem_cons_zero, List.getElem_cons_succ, List.setIfInBounds_toArray, List.set_cons_zero, List.set_cons_succ]
        refine wpAnyH_take (i := 13) (v := (.bool (same d c))) rfl (by kernel_rfl) (by kernel_rfl) (by kernel_rfl) (fun _ _ _ h => h) (Or.inl ⟨by rfl, ?y13b⟩) rfl ?_
        case y13b => (intro w' hw'; subst hw'; go_simp; first | done | with_reducible rfl)
        simp only [Act.put, List.getElem_toArray, List.getElem_cons_zero, List.getElem_cons_succ, List.setIfInBounds_toArray, List.set_cons_zero, List.set_cons_succ]
        refine wpAnyH_take (i := 14) (v := ?v14b) rfl (by kernel_rfl) (by kernel_rfl) (by kernel_rfl) (fun _ _ _ h => h) (Or.inl ⟨by rfl, ?y14b⟩) rfl ?_
        case y14b => (intro w' hw'; subst hw'; go_simp; first | done | with_reducible rfl)
        simp only [Act.put, List.getElem_toArray, List.getElem_cons_zero, List.getElem_cons_succ, List.setIfInBounds_toArray, List.set_cons_zero, List.set_cons_succ]
        refine wpAnyH_done (by kernel_rfl) ?_ _
        rw [hsm]
        go_wp2_with (go_at_call 61; refine (unhide HBD).mono ?_; clear HBD; rintro e w3 ⟨u, rfl, hb3⟩)
        go_ret2
        exact unhide HF2 _ hb3
      · -- a variable on the right
        obtain ⟨n', d', rfl, ey, hk, ⟨c', q'', ex, hck⟩, hnr, hU'⟩ := h
        simp only [List.cons.injEq] at ex ey
        obtain ⟨rfl, rfl⟩ := ex
        obtain ⟨rfl, rfl⟩ := ey
        have hckb : (c.k == 1) = false := by simpa using hck
        have hkb : (d.k == 1) = true := by simpa using hk
        have HBD := hide (l2Bind_yes sa sc lo wr.heap.size s' d.n _ (c :: q) w2.drew (by omega) (by simp) (by omega) hTOT hgl hb12.size (by omega) hOd hTx hnr)
        have HNXT := hide (fun (w3 : World) (u : Value) => unhide HBIND d.n (c :: q) w3 u n' (hdb hk) (okC_var hdok hk) hxt hxl hnr hU')
        clear HHU HBIND HFAIL hOd hTx hTy hLd hRd hGd hrm hcb hdb hcok hdok hgl hTOT hnr hU' hk hck HNX HNY HUU HROOM HL HRT HLR HO hAx hAy hxh hyh
        simp only [List.length_cons] at HBD HNXT
        refine wp_region_any (by kernel_rfl) (wpAny_of_held (S := fun w' => w' = w2.drew) _ _ _ _ ?_)
        refine wpAnyH_take (i := 0) (v := ?v0c) rfl (by kernel_rfl) (by kernel_rfl) (by kernel_rfl) (fun _ _ _ h => h) (Or.inl ⟨by rfl, ?y0c⟩) rfl ?_
        case y0c => (intro w' hw'; subst hw'; go_simp; first | done | with_reducible rfl)
        simp only [Act.put, List.getElem_toArray, List.getElem_cons_zero, List.getElem_cons_succ, List.setIfInBounds_toArray, List.set_cons_zero, List.set_cons_succ]
        refine wpAnyH_take (i := 1) (v := ?v1c) rfl (by kernel_rfl) (by kernel_rfl) (by kernel_rfl) (fun _ _ _ h => h) (Or.inl ⟨by rfl, ?y1c⟩) rfl ?_
        case y1c => (intro w' hw'; subst hw'; go_simp; first | done | with_reducible rfl)
        simp only [Act.put, List.getElem_toArray, List.getElem_cons_zero, List.getElem_cons_succ, List.setIfInBounds_toArray, List.set_cons_zero, List.set_cons_succ]
        refine wpAnyH_take (i := 2) (v := ?v2c) rfl (by kernel_rfl) (by kernel_rfl) (by kernel_rfl) (fun _ _ _ h => h) (Or.inl ⟨by rfl, ?y2c⟩) rfl ?_
        case y2c => (intro w' hw'; subst hw'; go_simp; first | done | with_reducible rfl)
        simp only [Act.put, List.getElem_toArray, List.getElem_cons_zero, List.getElem_cons_succ, List.setIfInBounds_toArray, List.set_cons_zero, List.set_cons_succ]
        refine wpAnyH_take (i := 3) (v := (.int .i64 c.k)) rfl (by kernel_rfl) (by kernel_rfl) (by kernel_rfl) (fun _ _ _ h => h) (Or.inl ⟨by rfl, ?y3c⟩) rfl ?_
        case y3c => (intro w' hw'; subst hw'; go_simp; first | done | with_reducible rfl)
        simp only [Act.put, List.getElem_toArray, List.getElem_cons_zero, List.getElem_cons_succ, List.setIfInBounds_toArray, List.set_cons_zero, List.set_cons_succ]
        refine wpAnyH_take (i := 4) (v := ?v4c) rfl (by kernel_rfl) (by kernel_rfl) (by kernel_rfl) (fun _ _ _ h => h) (Or.inl ⟨by rfl, ?y4c⟩) rfl ?_
        case y4c => (intro w' hw'; subst hw'; go_simp; first | done | with_reducible rfl)
        simp only [Act.put, List.getElem_toArray, List.getElem_cons_zero, List.getElem_cons_succ, List.setIfInBounds_toArray, List.set_cons_zero, List.set_cons_succ]
        refine wpAnyH_take (i := 5) (v := ?v5c) rfl (by kernel_rfl) (by kernel_rfl) (by kernel_rfl) (fun _ _ _ h => h) (Or.inl ⟨by rfl, ?y5c⟩) rfl ?_
        case y5c => (intro w' hw'; subst hw'; go_simp; first | done | with_reducible rfl)
        simp only [Act.put, List.getElem_toArray, List.getElem_cons_zero, List.getElem_cons_succ, List.setIfInBounds_toArray, List.set_cons_zero, List.set_cons_succ]
        refine wpAnyH_take (i := 6) (v := undef) rfl (by kernel_rfl) (by kernel_rfl) (by kernel_rfl) (fun _ _ _ h => h) (Or.inr ⟨by rfl, rfl⟩) rfl ?_
        simp only [Act.put, List.getElem_toArray, List.getElem_cons_zero, List.getElem_cons_succ, List.setIfInBounds_toArray, List.set_cons_zero, List.set_cons_succ]
        refine wpAnyH_take (i := 7) (v := undef) rfl (by kernel_rfl) (by kernel_rfl) (by kernel_rfl) (fun _ _ _ h => h) (Or.inr ⟨by rfl, rfl⟩) rfl ?_
        simp only [Act.put, List.getElem_toArray, List.getElem_cons_zero, List.getElem_cons_succ, List.setIfInBounds_toArray, List.set_cons_zero, List.set_cons_succ]
        refine wpAnyH_take (i := 8) (v := undef) rfl (by kernel_rfl) (by kernel_rfl) (by kernel_rfl) (fun _ _ _ h => h) (Or.inr ⟨by rfl, rfl⟩) rfl ?_
        simp only [Act.put, List.getElem_toArray, List.getElem_cons_zero, List.getElem_cons_succ, List.setIfInBounds_toArray, List.set_cons_zero, List.set_cons_succ]
        refine wpAnyH_take (i := 9) (v := undef) rfl (by kernel_rfl) (by kernel_rfl) (by kernel_rfl) (fun _ _ _ h => h) (Or.inr ⟨by rfl, rfl⟩) rfl ?_
        simp only [Act.put, List.getElem_toArray, List.getElem_cons_zero, List.getElem_cons_succ, List.setIfInBounds_toArray, List.set_cons_zero, List.set_cons_succ]
        refine wpAnyH_take (i := 10) (v := undef) rfl (by kernel_rfl) (by kernel_rfl) (by kernel_rfl) (fun _ _ _ h => h) (Or.inr ⟨by rfl, rfl⟩) rfl ?_
        simp only [Act.put, List.getElem_toArray, List.getElem_cons_zero, List.getElem_cons_succ, List.setIfInBounds_toArray, List.set_cons_zero, List.set_cons_succ]
        refine wpAnyH_take (i := 11) (v := undef) rfl (by kernel_rfl) (by kernel_rfl) (by kernel_rfl) (fun _ _ _ h => h) (Or.inr ⟨by rfl, rfl⟩) rfl ?_
        simp only [Act.put, List.getElem_toArray, List.getElem_cons_zero, List.getElem_cons_succ, List.setIfInBounds_toArray, List.set_cons_zero, List.set_cons_succ]
        refine wpAnyH_take (i := 12) (v := undef) rfl (by kernel_rfl) (by kernel_rfl) (by kernel_rfl) (fun _ _ _ h => h) (Or.inr ⟨by rfl, rfl⟩) rfl ?_
        simp only [Act.put, List.getElem_toArray, List.getElem_cons_zero, List.getElem_cons_succ, List.setIfInBounds_toArray, List.set_cons_zero, List.set_cons_succ]
        refine wpAnyH_take (i := 13) (v := (.bool false)) rfl (by kernel_rfl) (by kernel_rfl) (by kernel_rfl) (fun _ _ _ h => h) (Or.inl ⟨by rfl, ?y13c⟩) rfl ?_
        case y13c => (intro w' hw'; subst hw'; go_simp; first | done | with_reducible rfl)
        simp only [Act.put, List.getElem_toArray, List.getElem_cons_zero, List.getElem_cons_succ, List.setIfInBounds_toArray, List.set_cons_zero, List.set_cons_succ]
        refine wpAnyH_take (i := 14) (v := ?v14c) rfl (by kernel_rfl) (by kernel_rfl) (by kernel_rfl) (fun _ _ _ h => h) (Or.inl ⟨by rfl, ?y14c⟩) rfl ?_
        case y14c => (intro w' hw'; subst hw'; go_simp; first | done | with_reducible rfl)
        simp only [Act.put, List.getElem_toArray, List.getElem_cons_zero, List.getElem_cons_succ, List.setIfInBounds_toArray, List.set_cons_zero, List.set_cons_succ]
        refine wpAnyH_done (by kernel_rfl) ?_ _
        go_wp2_with (go_at_call 61; refine (unhide HBD).mono ?_; clear HBD; rintro e w3 ⟨u, rfl, hOu, hgr, hub⟩; have HN2 := hide (unhide HNXT w3 u hOu hgr hub); clear HNXT hOu hgr hub)
        go_roundg n'
        case rel => exact unhide HN2
        case measure => omega
      · -- a variable that leads to itself on the right
        obtain ⟨d', ey, hk, ⟨c', q'', ex, hck⟩, hre, hres⟩ := h
        simp only [List.cons.injEq] at ex ey
        obtain ⟨rfl, rfl⟩ := ex
        obtain ⟨rfl, rfl⟩ := ey
        have hckb : (c.k == 1) = false := by simpa using hck
        have hkb : (d.k == 1) = true := by simpa using hk
        have HBD := hide (l2Bind_ring sa sc lo wr.heap.size s' d.n _ (c :: q) w2.drew (by omega) (by omega) hTOT hgl hOd hTx hre)
        have HF2 := hide (unhide HFAIL hres)
        clear HHU HBIND HFAIL hOd hTx hTy hLd hRd hGd hrm hcb hdb hcok hdok hgl hTOT hre hres hk hck HNX HNY HUU HROOM HL HRT HLR HO hAx hAy hxh hyh
        simp only [List.length_cons] at HBD
        refine wp_region_any (by kernel_rfl) (wpAny_of_held (S := fun w' => w' = w2.drew) _ _ _ _ ?_)
        refine wpAnyH_take (i := 0) (v := ?v0d) rfl (by kernel_rfl) (by kernel_rfl) (by kernel_rfl) (fun _ _ _ h => h) (Or.inl ⟨by rfl, ?y0d⟩) rfl ?_
        case y0d => (intro w' hw'; subst hw'; go_simp; first | done | with_reducible rfl)
        simp only [Act.put, List.getElem_toArray, List.getElem_cons_zero, List.getElem_cons_succ, List.setIfInBounds_toArray, List.set_cons_zero, List.set_cons_succ]
        refine wpAnyH_take (i := 1) (v := ?v1d) rfl (by kernel_rfl) (by kernel_rfl) (by kernel_rfl) (fun _ _ _ h => h) (Or.inl ⟨by rfl, ?y1d⟩) rfl ?_
        case y1d => (intro w' hw'; subst hw'; go_simp; first | done | with_reducible rfl)
        simp only [Act.put, List.getElem_toArray, List.getElem_cons_zero, List.getElem_cons_succ, List.setIfInBounds_toArray, List.set_cons_zero, List.set_cons_succ]
        refine wpAnyH_take (i := 2) (v := ?v2d) rfl (by kernel_rfl) (by kernel_rfl) (by kernel_rfl) (fun _ _ _ h => h) (Or.inl ⟨by rfl, ?y2d⟩) rfl ?_
        case y2d => (intro w' hw'; subst hw'; go_simp; first | done | with_reducible rfl)
        simp only [Act.put, List.getElem_toArray, List.getElem_cons_zero, List.getElem_cons_succ, List.setIfInBounds_toArray, List.set_cons_zero, List.set_cons_succ]
        refine wpAnyH_take (i := 3) (v := (.int .i64 c.k)) rfl (by kernel_rfl) (by kernel_rfl) (by kernel_rfl) (fun _ _ _ h => h) (Or.inl ⟨by rfl, ?y3d⟩) rfl ?_
        case y3d => (intro w' hw'; subst hw'; go_simp; first | done | with_reducible rfl)
        simp only [Act.put, List.getElem_toArray, List.getElem_cons_zero, List.getElem_cons_succ, List.setIfInBounds_toArray, List.set_cons_zero, List.set_cons_succ]
        refine wpAnyH_take (i := 4) (v := ?v4d) rfl (by kernel_rfl) (by kernel_rfl) (by kernel_rfl) (fun _ _ _ h => h) (Or.inl ⟨by rfl, ?y4d⟩) rfl ?_
        case y4d => (intro w' hw'; subst hw'; go_simp; first | done | with_reducible rfl)
        simp only [Act.put, List.getElem_toArray, List.getElem_cons_zero, List.getElem_cons_succ, List.setIfInBounds_toArray, List.set_cons_zero, List.set_cons_succ]
        refine wpAnyH_take (i := 5) (v := ?v5d) rfl (by kernel_rfl) (by kernel_rfl) (by kernel_rfl) (fun _ _ _ h => h) (Or.inl ⟨by rfl, ?y5d⟩) rfl ?_
        case y5d => (intro w' hw'; subst hw'; go_simp; first | done | with_reducible rfl)
        simp only [Act.put, List.getElem_toArray, List.getElem_cons_zero, List.getElem_cons_succ, List.setIfInBounds_toArray, List.set_cons_zero, List.set_cons_succ]
        refine wpAnyH_take (i := 6) (v := undef) rfl (by kernel_rfl) (by kernel_rfl) (by kernel_rfl) (fun _ _ _ h => h) (Or.inr ⟨by rfl, rfl⟩) rfl ?_
        simp only [Act.put, List.getElem_toArray, List.getElem_cons_zero, List.getElem_cons_succ, List.setIfInBounds_toArray, List.set_cons_zero, List.set_cons_succ]
        refine wpAnyH_take (i := 7) (v := undef) rfl (by kernel_rfl) (by kernel_rfl) (by kernel_rfl) (fun _ _ _ h => h) (Or.inr ⟨by rfl, rfl⟩) rfl ?_
        simp only [Act.put, List.getElem_toArray, List.getElem_cons_zero, List.getElem_cons_succ, List.setIfInBounds_toArray, List.set_cons_zero, List.set_cons_succ]
        refine wpAnyH_take (i := 8) (v := undef) rfl (by kernel_rfl) (by kernel_rfl) (by kernel_rfl) (fun _ _ _ h => h) (Or.inr ⟨by rfl, rfl⟩) rfl ?_
        simp only [Act.put, List.getElem_toArray, List.getElem_cons_zero, List.getElem_cons_succ, List.setIfInBounds_toArray, List.set_cons_zero, List.set_cons_succ]
        refine wpAnyH_take (i := 9) (v := undef) rfl (by kernel_rfl) (by kernel_rfl) (by kernel_rfl) (fun _ _ _ h => h) (Or.inr ⟨by rfl, rfl⟩) rfl ?_
        simp only [Act.put, List.getElem_toArray, List.getElem_cons_zero, List.getElem_cons_succ, List.setIfInBounds_toArray, List.set_cons_zero, List.set_cons_succ]
        refine wpAnyH_take (i := 10) (v := undef) rfl (by kernel_rfl) (by kernel_rfl) (by kernel_rfl) (fun _ _ _ h => h) (Or.inr ⟨by rfl, rfl⟩) rfl ?_
        simp only [Act.put, List.getElem_toArray, List.getElem_cons_zero, List.getElem_cons_succ, List.setIfInBounds_toArray, List.set_cons_zero, List.set_cons_succ]
        refine wpAnyH_take (i := 11) (v := undef) rfl (by kernel_rfl) (by kernel_rfl) (by kernel_rfl) (fun _ _ _ h => h) (Or.inr ⟨by rfl, rfl⟩) rfl ?_
        simp only [Act.put, List.getElem_toArray, List.getElem_cons_zero, List.getElem_cons_succ, List.setIfInBounds_toArray, List.set_cons_zero, List.set_cons_succ]
        refine wpAnyH_take (i := 12) (v := undef) rfl (by kernel_rfl) (by kernel_rfl) (by kernel_rfl) (fun _ _ _ h => h) (Or.inr ⟨by rfl, rfl⟩) rfl ?_
        simp only [Act.put, List.getElem_toArray, List.getElem_cons_zero, List.getElem_cons_succ, List.setIfInBounds_toArray, List.set_cons_zero, List.set_cons_succ]
        refine wpAnyH_take (i := 13) (v := (.bool false)) rfl (by kernel_rfl) (by kernel_rfl) (by kernel_rfl) (fun _ _ _ h => h) (Or.inl ⟨by rfl, ?y13d⟩) rfl ?_
        case y13d => (intro w' hw'; subst hw'; go_simp; first | done | with_reducible rfl)
        simp only [Act.put, List.getElem_toArray, List.getElem_cons_zero, List.getElem_cons_succ, List.setIfInBounds_toArray, List.set_cons_zero, List.set_cons_succ]
        refine wpAnyH_take (i := 14) (v := ?v14d) rfl (by kernel_rfl) (by kernel_rfl) (by kernel_rfl) (fun _ _ _ h => h) (Or.inl ⟨by rfl, ?y14d⟩) rfl ?_
        case y14d => (intro w' hw'; subst hw'; go_simp; first | done | with_reducible rfl)
        simp only [Act.put, List.getElem_toArray, List.getElem_cons_zero, List.getElem_cons_succ, List.setIfInBounds_toArray, List.set_cons_zero, List.set_cons_succ]
        refine wpAnyH_done (by kernel_rfl) ?_ _
        go_wp2_with (go_at_call 61; refine (unhide HBD).mono ?_; clear HBD; rintro e w3 ⟨u, rfl, hb3⟩)
        go_ret2
        exact unhide HF2 _ hb3
      · -- two that differ
        obtain ⟨c', d', q1, q2, ex, ey, hck, hdk, hcd, hres⟩ := h
        simp only [List.cons.injEq] at ex ey
        obtain ⟨rfl, rfl⟩ := ex
        obtain ⟨rfl, rfl⟩ := ey
        have hckb : (c.k == 1) = false := by simpa using hck
        have hdkb : (d.k == 1) = false := by simpa using hdk
        have hsm : (!same c d) = true := by
          cases hs : same c d with
          | false => rfl
          | true => exact absurd ((same_iff c d).1 hs) hcd
        have HF2 := hide (unhide HFAIL hres)
        clear HHU HBIND HFAIL hOd hTx hTy hLd hRd hGd hrm hcb hdb hcok hdok hgl hTOT hres hck hdk HNX HNY HUU HROOM HL HRT HLR HO hAx hAy hxh hyh
        refine wp_region_any (by kernel_rfl) (wpAny_of_held (S := fun w' => w' = w2.drew) _ _ _ _ ?_)
        refine wpAnyH_take (i := 0) (v := ?v0e) rfl (by kernel_rfl) (by kernel_rfl) (by kernel_rfl) (fun _ _ _ h => h) (Or.inl ⟨by rfl, ?y0e⟩) rfl ?_
        case y0e => (intro w' hw'; subst hw'; go_simp; first | done | with_reducible rfl)
        simp only [Act.put, List.getElem_toArray, List.getElem_cons_zero, List.getElem_cons_succ, List.setIfInBounds_toArray, List.set_cons_zero, List.set_cons_succ]
        refine wpAnyH_take (i := 1) (v := ?v1e) rfl (by kernel_rfl) (by kernel_rfl) (by kernel_rfl) (fun _ _ _ h => h) (Or.inl ⟨by rfl, ?y1e⟩) rfl ?_
        case y1e => (intro w' hw'; subst hw'; go_simp; first | done | with_reducible rfl)
        simp only [Act.put, List.getElem_toArray, List.getElem_cons_zero, List.getElem_cons_succ, List.setIfInBounds_toArray, List.set_cons_zero, List.set_cons_succ]
        refine wpAnyH_take (i := 2) (v := ?v2e) rfl (by kernel_rfl) (by kernel_rfl) (by kernel_rfl) (fun _ _ _ h => h) (Or.inl ⟨by rfl, ?y2e⟩) rfl ?_
        case y2e => (intro w' hw'; subst hw'; go_simp; first | done | with_reducible rfl)
        simp only [Act.put, List.getElem_toArray, List.getElem_cons_zero, List.getElem_cons_succ, List.setIfInBounds_toArray, List.set_cons_zero, List.set_cons_succ]
        refine wpAnyH_take (i := 3) (v := (.int .i64 c.k)) rfl (by kernel_rfl) (by kernel_rfl) (by kernel_rfl) (fun _ _ _ h => h) (Or.inl ⟨by rfl, ?y3e⟩) rfl ?_
        case y3e => (intro w' hw'; subst hw'; go_simp; first | done | with_reducible rfl)
        simp only [Act.put, List.getElem_toArray, List.getElem_cons_zero, List.getElem_cons_succ, List.setIfInBounds_toArray, List.set_cons_zero, List.set_cons_succ]
        refine wpAnyH_take (i := 4) (v := ?v4e) rfl (by kernel_rfl) (by kernel_rfl) (by kernel_rfl) (fun _ _ _ h => h) (Or.inl ⟨by rfl, ?y4e⟩) rfl ?_
        case y4e => (intro w' hw'; subst hw'; go_simp; first | done | with_reducible rfl)
        simp only [Act.put, List.getElem_toArray, List.getElem_cons_zero, List.getElem_cons_succ, List.setIfInBounds_toArray, List.set_cons_zero, List.set_cons_succ]
        refine wpAnyH_take (i := 5) (v := ?v5e) rfl (by kernel_rfl) (by kernel_rfl) (by kernel_rfl) (fun _ _ _ h => h) (Or.inl ⟨by rfl, ?y5e⟩) rfl ?_
        case y5e => (intro w' hw'; subst hw'; go_simp; first | done | with_reducible rfl)
        simp only [Act.put, List.getElem_toArray, List.getElem_cons_zero, List.getElem_cons_succ, List.setIfInBounds_toArray, List.set_cons_zero, List.set_cons_succ]
        refine wpAnyH_take (i := 6) (v := undef) rfl (by kernel_rfl) (by kernel_rfl) (by kernel_rfl) (fun _ _ _ h => h) (Or.inr ⟨by rfl, rfl⟩) rfl ?_
        simp only [Act.put, List.getElem_toArray, List.getElem_cons_zero, List.getElem_cons_succ, List.setIfInBounds_toArray, List.set_cons_zero, List.set_cons_succ]
        refine wpAnyH_take (i := 7) (v := undef) rfl (by kernel_rfl) (by kernel_rfl) (by kernel_rfl) (fun _ _ _ h => h) (Or.inr ⟨by rfl, rfl⟩) rfl ?_
        simp only [Act.put, List.getElem_toArray, List.getElem_cons_zero, List.getElem_cons_succ, List.setIfInBounds_toArray, List.set_cons_zero, List.set_cons_succ]
        refine wpAnyH_take (i := 8) (v := undef) rfl (by kernel_rfl) (by kernel_rfl) (by kernel_rfl) (fun _ _ _ h => h) (Or.inr ⟨by rfl, rfl⟩) rfl ?_
        simp only [Act.put, List.getElem_toArray, List.getElem_cons_zero, List.getElem_cons_succ, List.setIfInBounds_toArray, List.set_cons_zero, List.set_cons_succ]
        refine wpAnyH_take (i := 9) (v := undef) rfl (by kernel_rfl) (by kernel_rfl) (by kernel_rfl) (fun _ _ _ h => h) (Or.inr ⟨by rfl, rfl⟩) rfl ?_
        simp only [Act.put, List.getElem_toArray, List.getElem_cons_zero, List.getElem_cons_succ, List.setIfInBounds_toArray, List.set_cons_zero, List.set_cons_succ]
        refine wpAnyH_take (i := 10) (v := undef) rfl (by kernel_rfl) (by kernel_rfl) (by kernel_rfl) (fun _ _ _ h => h) (Or.inr ⟨by rfl, rfl⟩) rfl ?_
        simp only [Act.put, List.getElem_toArray, List.getElem_cons_zero, List.getElem_cons_succ, List.setIfInBounds_toArray, List.set_cons_zero, List.set_cons_succ]
        refine wpAnyH_take (i := 11) (v := undef) rfl (by kernel_rfl) (by kernel_rfl) (by kernel_rfl) (fun _ _ _ h => h) (Or.inr ⟨by rfl, rfl⟩) rfl ?_
        simp only [Act.put, List.getElem_toArray, List.getElem_cons_zero, List.getElem_cons_succ, List.setIfInBounds_toArray, List.set_cons_zero, List.set_cons_succ]
        refine wpAnyH_take (i := 12) (v := undef) rfl (by kernel_rfl) (by kernel_rfl) (by kernel_rfl) (fun _ _ _ h => h) (Or.inr ⟨by rfl, rfl⟩) rfl ?_
        simp only [Act.put, List.getElem_toArray, List.getElem_cons_zero, List.getElem_cons_succ, List.setIfInBounds_toArray, List.set_cons_zero, List.set_cons_succ]
        refine wpAnyH_take (i := 13) (v := (.bool false)) rfl (by kernel_rfl) (by kernel_rfl) (by kernel_rfl) (fun _ _ _ h => h) (Or.inl ⟨by rfl, ?y13e⟩) rfl ?_
        case y13e => (intro w' hw'; subst hw'; go_simp; first | done | with_reducible rfl)
        simp only [Act.put, List.getElem_toArray, List.getElem_cons_zero, List.getElem_cons_succ, List.setIfInBounds_toArray, List.set_cons_zero, List.set_cons_succ]
        refine wpAnyH_take (i := 14) (v := ?v14e) rfl (by kernel_rfl) (by kernel_rfl) (by kernel_rfl) (fun _ _ _ h => h) (Or.inl ⟨by rfl, ?y14e⟩) rfl ?_
        case y14e => (intro w' hw'; subst hw'; go_simp; first | done | with_reducible rfl)
        simp only [Act.put, List.getElem_toArray, List.getElem_cons_zero, List.getElem_cons_succ, List.setIfInBounds_toArray, List.set_cons_zero, List.set_cons_succ]
        refine wpAnyH_done (by kernel_rfl) ?_ _
        go_wp2
        refine wp_region_any (by kernel_rfl) (wpAny_of_held (S := fun w' => w' = w2.drew.drew) _ _ _ _ ?_)
        refine wpAnyH_take (i := 0) (v := ?v0f) rfl (by kernel_rfl) (by kernel_rfl) (by kernel_rfl) (fun _ _ _ h => h) (Or.inl ⟨by rfl, ?y0f⟩) rfl ?_
        case y0f => (intro w' hw'; subst hw'; go_simp; first | done | with_reducible rfl)
        simp only [Act.put, List.getElem_toArray, List.getElem_cons_zero, List.getElem_cons_succ, List.setIfInBounds_toArray, List.set_cons_zero, List.set_cons_succ]
        refine wpAnyH_take (i := 1) (v := ?v1f) rfl (by kernel_rfl) (by kernel_rfl) (by kernel_rfl) (fun _ _ _ h => h) (Or.inl ⟨by rfl, ?y1f⟩) rfl ?_
        case y1f => (intro w' hw'; subst hw'; go_simp; first | done | with_reducible rfl)
        simp only [Act.put, List.getElem_toArray, List.getElem_cons_zero, List.getElem_cons_succ, List.setIfInBounds_toArray, List.set_cons_zero, List.set_cons_succ]
        refine wpAnyH_take (i := 2) (v := (.agg #[.int .i64 c.k, .int .i64 c.n, .string c.s])) rfl (by kernel_rfl) (by kernel_rfl) (by kernel_rfl) (fun _ _ _ h => h) (Or.inl ⟨by rfl, ?y2f⟩) rfl ?_
        case y2f => (intro w' hw'; subst hw'; go_simp; first | done | with_reducible rfl)
        simp only [Act.put, List.getElem_toArray, List.getElem_cons_zero, List.getElem_cons_succ, List.setIfInBounds_toArray, List.set_cons_zero, List.set_cons_succ]
        refine wpAnyH_take (i := 3) (v := ?v3f) rfl (by kernel_rfl) (by kernel_rfl) (by kernel_rfl) (fun _ _ _ h => h) (Or.inl ⟨by rfl, ?y3f⟩) rfl ?_
        case y3f => (intro w' hw'; subst hw'; go_simp; first | done | with_reducible rfl)
        simp only [Act.put, List.getElem_toArray, List.getElem_cons_zero, List.getElem_cons_succ, List.setIfInBounds_toArray, List.set_cons_zero, List.set_cons_succ]
        refine wpAnyH_take (i := 4) (v := ?v4f) rfl (by kernel_rfl) (by kernel_rfl) (by kernel_rfl) (fun _ _ _ h => h) (Or.inl ⟨by rfl, ?y4f⟩) rfl ?_
        case y4f => (intro w' hw'; subst hw'; go_simp; first | done | with_reducible rfl)
        simp only [Act.put, List.getElem_toArray, List.getElem_cons_zero, List.getElem_cons_succ, List.setIfInBounds_toArray, List.set_cons_zero, List.set_cons_succ]
        refine wpAnyH_take (i := 5) (v := (.agg #[.int .i64 d.k, .int .i64 d.n, .string d.s])) rfl (by kernel_rfl) (by kernel_rfl) (by kernel_rfl) (fun _ _ _ h => h) (Or.inl ⟨by rfl, ?y5f⟩) rfl ?_
        case y5f => (intro w' hw'; subst hw'; go_simp; first | done | with_reducible rfl)
        simp only [Act.put, List.getElem_toArray, List.getElem_cons_zero, List.getElem_cons_succ, List.setIfInBounds_toArray, List.set_cons_zero, List.set_cons_succ]
        refine wpAnyH_take (i := 6) (v := (.bool (!same c d))) rfl (by kernel_rfl) (by kernel_rfl) (by kernel_rfl) (fun _ _ _ h => h) (Or.inl ⟨by rfl, ?y6f⟩) rfl ?_
        case y6f => (intro w' hw'; subst hw'; go_simp; first | done | with_reducible rfl)
        simp only [Act.put, List.getElem_toArray, List.getElem_cons_zero, List.getElem_cons_succ, List.setIfInBounds_toArray, List.set_cons_zero, List.set_cons_succ]
        refine wpAnyH_take (i := 7) (v := ?v7f) rfl (by kernel_rfl) (by kernel_rfl) (by kernel_rfl) (fun _ _ _ h => h) (Or.inl ⟨by rfl, ?y7f⟩) rfl ?_
        case y7f => (intro w' hw'; subst hw'; go_simp; first | done | with_reducible rfl)
        simp only [Act.put, List.getElem_toArray, List.getElem_cons_zero, List.getElem_cons_succ, List.setIfInBounds_toArray, List.set_cons_zero, List.set_cons_succ]
        refine wpAnyH_done (by kernel_rfl) ?_ _
        rw [hsm]
        go_wp2
        go_ret2
        exact unhide HF2 _ (Below.refl _ _).drew
end Go.Proofs.Ytonpahhcfgdeoaa
