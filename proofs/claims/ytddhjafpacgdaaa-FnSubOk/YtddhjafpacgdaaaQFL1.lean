/- The walk of l2Full, the specification's way to lay in what is bound. -/
import Derived.Test.YtddhjafpacgdaaaQSO1
import Derived.Deep.LoopGhost
import Derived.Deep.AppendLies
namespace Go.Proofs.Ytddhjafpacgdaaa
open Go.RowKit
set_option linter.unusedVariables false
set_option linter.unusedSimpArgs false

theorem three_at (w : World) (x y z : Value) (T N : Nat) (hN : w.heap.size = N) : ∀ j u, [x, y, z][j]? = some u → (w.alloc (.cells #[x, y, z] T)).cell? ((⟨N, 0, none⟩ : Addr).add j) = some u := by
  subst hN
  exact cell_three_new w x y z T

/-- A slice with an address that leads to places. -/
def Td (w : World) (v : Value) (t : List C) : Prop := ∃ b off cap, v = .slice (some ⟨b, off, none⟩) t.length cap ∧ At w b off t ∧ t.length ≤ cap ∧ cap ≤ maxLen ∧ b < w.heap.size

theorem Td.apart {w w1 : World} {v : Value} {t : List C} {row : Option Nat} (h : Td w v t) (hg : w.grownBy w1 row) (hr : v.ownBlock ≠ row) : Td w1 v t := by
  obtain ⟨b, off, cap, rfl, hA, h1, h2, h3⟩ := h
  exact ⟨b, off, cap, rfl, hA.kept (hg.block b h3 hr), h1, h2, Nat.lt_of_lt_of_le h3 hg.size⟩
theorem Td.below {w w1 : World} {v : Value} {t : List C} (h : Td w v t) (hb : Below w.heap.size w w1) : Td w1 v t := by
  obtain ⟨b, off, cap, rfl, hA, h1, h2, h3⟩ := h
  exact ⟨b, off, cap, rfl, hA.below hb, h1, h2, Nat.lt_of_lt_of_le h3 hb.size⟩

theorem own_td {w : World} {base : Nat} {v : Value} {t : List C} (h : OwnC w base v t) (hp : 1 ≤ t.length) : Td w v t ∧ v.ownBlock ≠ none := by
  have h' := h
  rcases h.2 with ⟨e, hn⟩ | ⟨g, cap, cur, e, hg, hh, hc, hm, _⟩
  · omega
  · subst e
    exact ⟨⟨g, 0, cap, rfl, owns_at h' rfl, hc, hm, (Array.getElem?_eq_some_iff.1 hh).1⟩, by simp [Value.ownBlock]⟩

theorem td_tail {w : World} {b off cap : Nat} {c : C} {t : List C} (hA : At w b off (c :: t)) (h1 : (c :: t).length ≤ cap) (h2 : cap ≤ maxLen) (h3 : b < w.heap.size) : ∃ off', (if cap = 1 then some (⟨b, off, none⟩ : Addr) else some ⟨b, off + 3, none⟩) = some ⟨b, off', none⟩ ∧ Td w (.slice (some ⟨b, off', none⟩) t.length (cap - 1)) t := by
  have hl : t.length + 1 ≤ cap := by simpa using h1
  by_cases hc : cap = 1
  · have ht : t = [] := List.length_eq_zero_iff.1 (by omega)
    subst ht
    exact ⟨off, by rw [if_pos hc], b, off, cap - 1, rfl, fun i hi => by simp at hi, by simp, by omega, h3⟩
  · refine ⟨off + 3, by rw [if_neg hc], b, off + 3, cap - 1, rfl, fun i hi => ?_, by omega, by omega, h3⟩
    have := hA (i + 1) (by first | omega | (simp; omega))
    simp only [List.getElem_cons_succ] at this
    rw [show off + 3 + i * 3 = off + (i + 1) * 3 by omega]
    exact this

/-- How far l2Full has come. -/
def FullAt (s : List B) (t' : List C) (w : World) (k : Nat) (ov tv : Value) (wr : World) : Prop :=
  ∃ o td rest, Exp s k td rest ∧ o ++ rest = t' ∧ o.length + td.length ≤ 40 ∧ OwnC wr w.heap.size ov o ∧ Td wr tv td ∧ tv.ownBlock ≠ ov.ownBlock ∧ tv.ownBlock ≠ none ∧ Below w.heap.size w wr

/-- What l2Full tells. -/
def FullOut (t' : List C) (w : World) (e : Ending) (w' : World) : Prop :=
  ∃ v, OwnC w' w.heap.size v (if t'.length ≤ 40 then t' else []) ∧ e = .returned (.tuple #[v, .bool (decide (t'.length ≤ 40))]) ∧ Below w.heap.size w w'

theorem full_yes {t' : List C} {w w' : World} {v : Value} (h : OwnC w' w.heap.size v t') (hl : t'.length ≤ 40) (hb : Below w.heap.size w w') : FullOut t' w (.returned (.tuple #[v, .bool true])) w' :=
  ⟨v, by rw [if_pos hl]; exact h, by rw [decide_eq_true hl], hb⟩
theorem full_no {t' : List C} {w w' : World} {v : Value} (h : OwnC w' w.heap.size v []) (hl : ¬ t'.length ≤ 40) (hb : Below w.heap.size w w') : FullOut t' w (.returned (.tuple #[v, .bool false])) w' :=
  ⟨v, by rw [if_neg hl]; exact h, by rw [decide_eq_false hl], hb⟩

set_option maxRecDepth 100000 in
set_option maxHeartbeats 4000000 in
theorem l2Full_some (ao : Option Addr) (cap : Nat) (s : List B) (b off cp : Nat) (t t' : List C) (n : Nat) (w : World) (hs : s.length ≤ 1048576) (hst : tot s ≤ 1048576) (ht : t.length ≤ 40) (hpos : 1 ≤ t.length) (hE : Exp s n t t') (hA : RowB w ao s) (hT : At w b off t) :
    Calls Try.prog 84 #[.slice ao s.length cap, .slice (some ⟨b, off, none⟩) t.length cp] w (FullOut t' w) := by
  obtain ⟨i0, hi, hz0, hz1, hz2⟩ := info_parts Try.infoCell
  have hT2 : At ((w.alloc (.cells #[] 36)).alloc (.cells #[] 36)) b off t := hT.below (below2 _ _ _)
  have hE0 := World.ownsRow_made (base := w.heap.size + 1) (e := 36) (size := 3) (w.alloc (.cells #[] 36)) #[] 0 (by simp) (by simp [maxLen]) rfl
  rw [World.size_alloc] at hE0
  go_enter Try.func84, Try.ntmps84
  go_wp2_with (at_builtin; refine wpList_append_own _ rfl _ _ 23 rfl (w.heap.size + 1) 36 i0 _ 3 32 Try.underlying23 hi hz0 hz1 hz2 rfl (by decide) _ _ _ rfl hE0 ⟨b, off, none⟩ t.length cp (flat t) rfl (flat_length t) hT2.each (flat_one t) ?s3 ?s4 ?s5 ?_)
  case s3 => unfold maxLen; omega
  case s4 => omega
  case s5 => simp
  intro v1 w1 ho1 hG1 hnil
  have hO1 : OwnC w1 (w.heap.size + 1) v1 t := by simpa [OwnC] using ho1
  have hBb : Below w.heap.size w w1 := ((below2 w _ _).mono (Nat.le_refl _)).grown hG1 (by first | omega | (simp; omega)) (fun k e => by simp [Value.ownBlock] at e; omega)
  have hOut : OwnC w1 w.heap.size (.slice (some ⟨w.heap.size, 0, none⟩) 0 0) [] := by
    refine own_block (w := w.alloc (.cells #[] 36)) (World.ownsRow_made w #[] 0 (Nat.le_refl _) (by simp [maxLen]) rfl) (fun k e => ?_)
    have e' : w.heap.size = k := by simpa [Value.ownBlock] using e
    subst e'
    exact (hG1.block _ (by first | omega | (simp; omega)) (by simp [Value.ownBlock])).trans (Below.heap_alloc _ _ _ (by simp))
  obtain ⟨hTd, hTn⟩ := own_td hO1 hpos
  have hne : v1.ownBlock ≠ (Value.slice (some ⟨w.heap.size, 0, none⟩) 0 0).ownBlock := fun e => by
    have := (hO1.lt w.heap.size e).1
    omega
  have HE := hide hE
  clear ho1 hG1 hnil hO1 hE0 hT2 hT hE
  go_wp2
  go_loopg [6, 7] n (fun k ov tv wr => FullAt s t' w k ov tv wr)
  case atStart => exact ⟨[], t, t', unhide HE, rfl, by simpa using ht, hOut, hTd, hne, hTn, hBb⟩
  case round =>
    clear hOut hTd hne hTn hBb HE
    obtain ⟨o, td, rest, hE, hr, hl, hO, hTd, hne, hTn, hBw⟩ := hrel
    have HR := hide hr
    have HTN := hide hTn
    have HNE := hide hne
    clear hr hTn hne
    obtain ⟨oa, oc, rfl, _⟩ := hO.shape
    obtain ⟨tb, toff, tcap, rfl, hAt, htc, htm, htl⟩ := hTd
    cases td with
    | nil =>
      cases hE with
      | nil =>
        have hl' : o.length ≤ 40 := by simpa using hl
        have HO := hide hO
        simp only [List.length_nil]
        clear hO hAt
        go_wp2
        go_ret2
        have := unhide HR
        rw [List.append_nil] at this
        subst this
        exact full_yes (unhide HO) hl' hBw
    | cons c td =>
      obtain ⟨c0, c1, c2⟩ := hAt 0 (by simp)
      simp only [List.getElem_cons_zero, Nat.zero_mul, Nat.add_zero] at c0 c1 c2
      obtain ⟨off', hoff, hTail⟩ := td_tail hAt htc htm htl
      simp only [List.length_cons] at hl htc
      have hW1 : Below wr.heap.size wr ((wr.alloc (.cells #[.int .i64 c.k, .int .i64 c.n, .string c.s] 36)).alloc (.cells #[] 36)) := below2 _ _ _
      have hs2 : ((wr.alloc (.cells #[.int .i64 c.k, .int .i64 c.n, .string c.s] 36)).alloc (.cells #[] 36)).heap.size = wr.heap.size + 2 := by simp
      have HO := hide hO
      have HTL := hide hTail
      have hsz := hBw.size
      have HNE' : Hid ((Value.slice (some ⟨tb, off', none⟩) td.length (tcap - 1)).ownBlock ≠ (Value.slice oa o.length oc).ownBlock) := unhide HNE
      clear HNE
      have HNE := HNE'
      clear HNE' hO hTail hAt
      by_cases hk1 : c.k = 1
      · have hkb : (c.k == 1) = true := by simpa using hk1
        have HG := hide (l2Get_any ao cap s c.n ((wr.alloc (.cells #[.int .i64 c.k, .int .i64 c.n, .string c.s] 36)).alloc (.cells #[] 36)) hs ((hA.below hBw).below hW1))
        have hgl : (getB s c.n).length ≤ 1048576 := Nat.le_trans (getB_len c.n) hst
        cases hE with
        | @keep n2 _ _ rest2 hkeep hE2 =>
          have hg0 := hkeep hk1
          rw [hg0] at HG
          clear hkeep hk1 hg0
          go_wp2_with fail
          refine (unhide HG).mono ?_
          clear HG
          rintro e w4 ⟨ga, gc, rfl, _, _, _, hb4⟩
          have hb4x := bstep hW1 hb4
          have hOw4 : OwnC w4 w.heap.size (.slice oa o.length oc) o := (unhide HO).below hb4x
          have e0 := (hb4.cell (p := ⟨wr.heap.size, 0, none⟩) (by first | omega | (simp; omega))).trans (show _ = some (.int .i64 c.k) by simp [go_sem])
          have e1 := (hb4.cell (p := ⟨wr.heap.size, 1, none⟩) (by first | omega | (simp; omega))).trans (show _ = some (.int .i64 c.n) by simp [go_sem])
          have e2 := (hb4.cell (p := ⟨wr.heap.size, 2, none⟩) (by first | omega | (simp; omega))).trans (show _ = some (.string c.s) by simp [go_sem])
          have hs4 := hb4x.size
          simp only [List.length_nil]
          go_wp2_with (at_builtin; refine wpList_append_lies _ rfl _ _ 23 rfl w.heap.size 36 i0 _ 3 32 Try.underlying23 hi hz0 hz1 hz2 rfl (by decide) _ o.length _ rfl (World.ownsRow.alloc hOw4 _) ⟨w4.heap.size, 0, none⟩ 1 1 [.int .i64 c.k, .int .i64 c.n, .string c.s] rfl rfl (three_at _ _ _ _ _ _ (by first | rfl | simp)) (by simp [Value.oneCell']) (by omega) (by unfold maxLen; omega) (by omega) (by first | omega | (simp; omega)) (w4.heap.size + 1) (by simp) ?_)
          intro g' cap' w5 hown' hgrow hat hgl'
          have hO5 : OwnC w5 w.heap.size (.slice (some ⟨g', 0, none⟩) (o.length + 1) cap') (o ++ [c]) := by
            unfold OwnC
            rw [flat_append, show (o ++ [c]).length = o.length + 1 by simp]
            exact hown'
          have hT5 := (((unhide HTL).below (hb4x)).below (cell_below _ (.cells #[.int .i64 c.k, .int .i64 c.n, .string c.s] 36))).apart hgrow (unhide HNE)
          have hN5 : (Value.slice (some ⟨tb, off', none⟩) td.length (tcap - 1)).ownBlock ≠ (Value.slice (some ⟨g', 0, none⟩) (o.length + 1) cap').ownBlock := fun e => by
            have e' : tb = g' := by simpa [Value.ownBlock] using e
            rcases hat with h | h
            · exact unhide HNE (by rw [h, e']; rfl)
            · omega
          have hB5 : Below w.heap.size w w5 := ((hBw.trans ((hb4x).mono hsz)).alloc (by first | omega | (simp; omega)) _).grown hgrow (by first | omega | (simp; omega)) (fun q e => ((unhide HO).lt q e).1)
          have HO5 := hide hO5
          have HT5 := hide hT5
          have HN5 := hide hN5
          have hro : o ++ [c] ++ rest2 = t' := by rw [← unhide HR]; simp
          have HRO := hide hro
          have HEX := hide hE2
          clear hO5 hT5 hN5 hown' hgrow hat hgl' hro hE2
          go_wp2
          go_roundg n2
          case measure => omega
          case rel => exact ⟨o ++ [c], td, rest2, unhide HEX, unhide HRO, by simp; omega, by simpa using unhide HO5, unhide HT5, unhide HN5, by simp [Value.ownBlock], hB5⟩

        | @sub m2 n2 _ _ rest2 bb hk hb hEb hE2 =>
          clear hk1 hk
          go_wp2_with fail
          refine (unhide HG).mono ?_
          clear HG
          rintro e w4 ⟨ga, gc, rfl, hgc1, hgc2, hRg, hb4⟩
          have hb4x := bstep hW1 hb4
          have hOw4 : OwnC w4 w.heap.size (.slice oa o.length oc) o := (unhide HO).below hb4x
          have hT4 := (unhide HTL).below hb4x
          have hs4 := hb4x.size
          have hbp : 1 ≤ (getB s c.n).length := List.length_pos_iff.2 hb
          obtain ⟨gb, goff, rfl, hAg⟩ : ∃ b off, ga = some ⟨b, off, none⟩ ∧ At w4 b off (getB s c.n) := by
            rcases hRg with h | h
            · exact absurd h hb
            · exact h
          have hlb := hEb.len
          have hlr := hE2.len
          have HEX : Hid (Exp s (m2 + n2) (getB s c.n ++ td) (bb ++ rest2)) := hEb.append hE2
          have hrl : t'.length = o.length + (bb.length + rest2.length) := by rw [← unhide HR]; simp
          have HRO : Hid (o ++ (bb ++ rest2) = t') := unhide HR
          clear hRg hb hEb hE2
          obtain ⟨gt, hgt⟩ : ∃ gt, gt = getB s c.n := ⟨_, rfl⟩
          rw [← hgt] at hAg hgl hbp hlb HEX hgc1
          rw [← hgt]
          clear hgt
          obtain ⟨tb2, to2, tc2, etl, hAtl, _, _, htbl⟩ := hT4
          simp only [Value.slice.injEq, Option.some.injEq, Addr.mk.injEq] at etl
          obtain ⟨⟨rfl, rfl, _⟩, _, rfl⟩ := etl
          have hA5 : At (w4.alloc (.cells #[] 36)) gb goff gt := hAg.below (cell_below _ _)
          go_wp2_with (at_builtin; refine wpList_append_own _ rfl (.tmp 33) (.tmp 34) 23 rfl w4.heap.size 36 i0 _ 3 32 Try.underlying23 hi hz0 hz1 hz2 rfl (by decide) _ _ _ rfl (World.ownsRow_made w4 #[] 0 (Nat.le_refl _) (by simp [maxLen]) rfl) ⟨gb, goff, none⟩ gt.length gc (flat gt) rfl (flat_length gt) hA5.each (flat_one gt) (by unfold maxLen; omega) (by omega) (by simp) ?_)
          intro v5 w5 ho5 hG5 _
          have hO5 : OwnC w5 w4.heap.size v5 gt := by simpa [OwnC] using ho5
          have hB45 : Below w4.heap.size w4 w5 := ((Below.refl _ w4).alloc (Nat.le_refl _) _).grown hG5 (by simp) (fun k e => by simp [Value.ownBlock] at e; omega)
          clear ho5 hG5
          have hA6 := hAtl.below hB45
          obtain ⟨ra, rc, rfl, _⟩ := hO5.shape
          go_wp2_with (at_builtin; refine wpList_append_own _ rfl (.tmp 35) (.tmp 36) 23 rfl w4.heap.size 36 i0 _ 3 32 Try.underlying23 hi hz0 hz1 hz2 rfl (by decide) _ gt.length _ rfl hO5 ⟨tb, off', none⟩ td.length (tcap - 1) (flat td) rfl (flat_length td) hA6.each (flat_one td) (by unfold maxLen; omega) (by omega) hB45.size ?_)
          intro v6 w6 ho6 hG6 _
          have hO6 : OwnC w6 w4.heap.size v6 (gt ++ td) := by unfold OwnC; rw [flat_append, List.length_append]; exact ho6
          have hB46 : Below w4.heap.size w4 w6 := hB45.grown hG6 hB45.size (fun k e => (hO5.lt k e).1)
          have hBw6 := bstep (bstep hBw hb4x) hB46
          have hOw6 := hOw4.below hB46
          obtain ⟨hTd6, hTn6⟩ := own_td hO6 (by simp; omega)
          have hne6 : v6.ownBlock ≠ (Value.slice oa o.length oc).ownBlock := fun e => by
            cases hq : v6.ownBlock with
            | none => exact hTn6 hq
            | some q =>
              rw [hq] at e
              have h1 := (hO6.lt q hq).1
              have h2 := ((unhide HO).lt q e.symm).2
              omega
          obtain ⟨sa, sc, rfl, _⟩ := hO6.shape
          have HO6 := hide hOw6
          have HT6 := hide hTd6
          have HN6 := hide hne6
          have HTN6 := hide hTn6
          clear ho6 hG6 hO6 hO5 hA6 hAtl hA5 hAg hTd6 hne6 hTn6 hOw6 hOw4 hB45
          have hgl2 : (gt ++ td).length = gt.length + td.length := by simp
          rw [hgl2]
          by_cases hbig : 40 < o.length + (gt.length + td.length)
          · go_wp2
            go_ret2
            refine full_no ?_ (by omega) (bstep hBw6 (cell_below _ _))
            exact World.ownsRow_made _ #[] 0 hBw6.size (by simp [maxLen]) rfl
          · go_wp2
            go_roundg (m2 + n2)
            case measure => omega
            case rel => exact ⟨o, gt ++ td, bb ++ rest2, unhide HEX, unhide HRO, by simp; omega, unhide HO6, by simpa using unhide HT6, by simpa using unhide HN6, by simpa using unhide HTN6, hBw6⟩
      · have hkb : (c.k == 1) = false := by simpa using hk1
        cases hE with
        | sub hk => exact absurd hk hk1
        | @keep n2 _ _ rest2 hkeep hE2 =>
        clear hkeep hk1
        go_wp2_with (at_builtin; refine wpList_append_lies _ rfl _ _ 23 rfl w.heap.size 36 i0 _ 3 32 Try.underlying23 hi hz0 hz1 hz2 rfl (by decide) _ o.length _ rfl (World.ownsRow.alloc (World.ownsRow.alloc (World.ownsRow.alloc (unhide HO) _) _) _) ⟨(wr.heap.size + 1 + 1), 0, none⟩ 1 1 [.int .i64 c.k, .int .i64 c.n, .string c.s] rfl rfl (three_at _ _ _ _ _ _ (by first | rfl | simp)) (by simp [Value.oneCell']) (by omega) (by unfold maxLen; omega) (by omega) (by first | omega | (simp; omega)) ((wr.heap.size + 1 + 1) + 1) (by simp) ?_)
        intro g' cap' w5 hown' hgrow hat hgl'
        have hO5 : OwnC w5 w.heap.size (.slice (some ⟨g', 0, none⟩) (o.length + 1) cap') (o ++ [c]) := by
          unfold OwnC
          rw [flat_append, show (o ++ [c]).length = o.length + 1 by simp]
          exact hown'
        have hT5 := (((unhide HTL).below (hW1)).below (cell_below _ (.cells #[.int .i64 c.k, .int .i64 c.n, .string c.s] 36))).apart hgrow (unhide HNE)
        have hN5 : (Value.slice (some ⟨tb, off', none⟩) td.length (tcap - 1)).ownBlock ≠ (Value.slice (some ⟨g', 0, none⟩) (o.length + 1) cap').ownBlock := fun e => by
          have e' : tb = g' := by simpa [Value.ownBlock] using e
          rcases hat with h | h
          · exact unhide HNE (by rw [h, e']; rfl)
          · omega
        have hB5 : Below w.heap.size w w5 := ((hBw.trans ((hW1).mono hsz)).alloc (by first | omega | (simp; omega)) _).grown hgrow (by first | omega | (simp; omega)) (fun q e => ((unhide HO).lt q e).1)
        have HO5 := hide hO5
        have HT5 := hide hT5
        have HN5 := hide hN5
        have hro : o ++ [c] ++ rest2 = t' := by rw [← unhide HR]; simp
        have HRO := hide hro
        have HEX := hide hE2
        clear hO5 hT5 hN5 hown' hgrow hat hgl' hro hE2
        go_wp2
        go_roundg n2
        case measure => omega
        case rel => exact ⟨o ++ [c], td, rest2, unhide HEX, unhide HRO, by simp; omega, by simpa using unhide HO5, unhide HT5, unhide HN5, by simp [Value.ownBlock], hB5⟩

end Go.Proofs.Ytddhjafpacgdaaa
