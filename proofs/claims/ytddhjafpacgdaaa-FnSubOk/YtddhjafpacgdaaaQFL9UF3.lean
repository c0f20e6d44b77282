import Derived.Test.YtddhjafpacgdaaaQFL1
import Derived.Test.YtddhjafpacgdaaaQUF1UF2
import Derived.Test.YtddhjafpacgdaaaQU5
import Derived.Test.YtddhjafpacgdaaaQMU1RW1FL4FL8
/- The walk of l2Full once more, over more bindings. -/
namespace Go.Proofs.Ytddhjafpacgdaaa
open Go.RowKit
set_option linter.unusedVariables false
set_option linter.unusedSimpArgs false

set_option maxRecDepth 100000 in
set_option maxHeartbeats 4000000 in
theorem l2Full_wide (ao : Option Addr) (cap : Nat) (s : List B) (b off cp : Nat) (t t' : List C) (n : Nat) (w : World) (hs : s.length ≤ 1048576) (hst : ∀ v, (getB s v).length ≤ 1048576) (ht : t.length ≤ 40) (hpos : 1 ≤ t.length) (hE : Exp s n t t') (hA : RowB w ao s) (hT : At w b off t) :
    Calls Try.prog 84 #[.slice ao s.length cap, .slice (some ⟨b, off, none⟩) t.length cp] w (FullOut t' w) := by
  obtain ⟨i0, hi, hz0, hz1, hz2⟩ := info_parts Try.infoCell
  have hT2 : At ((w.alloc (.cells #[] 36)).alloc (.cells #[] 36)) b off t := hT.below (below2 _ _ _)
  have hE0 := World.ownsRow_made (base := w.heap.size + 1) (e := 36) (size := 3) (w.alloc (.cells #[] 36)) #[] 0 (by simp) (by simp [maxLen]) rfl
  rw [World.size_alloc] at hE0
  go_enter Try.func84, Try.ntmps84
  go_wp2_with (at_builtin; refine wpList_append_own _ rfl _ _ 23 rfl (w.heap.size + 1) 36 i0 _ 3 32 Try.underlying23 hi hz0 hz1 hz2 rfl (by decide) _ _ _ rfl hE0 ⟨b, off, none⟩ t.length cp (flat t) rfl (flat_length t) hT2.each (flat_one t) ?s3 ?s4 ?s5 ?_)
  case s3 => unfold maxLen; omega
  case s4 => omega
  case s5 => simp
  intro v1 w1 ho1 hG1 hnil
  have hO1 : OwnC w1 (w.heap.size + 1) v1 t := by simpa [OwnC] using ho1
  have hBb : Below w.heap.size w w1 := ((below2 w _ _).mono (Nat.le_refl _)).grown hG1 (by first | omega | (simp; omega)) (fun k e => by simp [Value.ownBlock] at e; omega)
  have hOut : OwnC w1 w.heap.size (.slice (some ⟨w.heap.size, 0, none⟩) 0 0) [] := by
    refine own_block (w := w.alloc (.cells #[] 36)) (World.ownsRow_made w #[] 0 (Nat.le_refl _) (by simp [maxLen]) rfl) (fun k e => ?_)
    have e' : w.heap.size = k := by simpa [Value.ownBlock] using e
    subst e'
    exact (hG1.block _ (by first | omega | (simp; omega)) (by simp [Value.ownBlock])).trans (Below.heap_alloc _ _ _ (by simp))
  obtain ⟨hTd, hTn⟩ := own_td hO1 hpos
  have hne : v1.ownBlock ≠ (Value.slice (some ⟨w.heap.size, 0, none⟩) 0 0).ownBlock := fun e => by
    have := (hO1.lt w.heap.size e).1
    omega
  have HE := hide hE
  clear ho1 hG1 hnil hO1 hE0 hT2 hT hE
  go_wp2
  go_loopg [6, 7] n (fun k ov tv wr => FullAt s t' w k ov tv wr)
  case atStart => exact ⟨[], t, t', unhide HE, rfl, by simpa using ht, hOut, hTd, hne, hTn, hBb⟩
  case round =>
    clear hOut hTd hne hTn hBb HE
    obtain ⟨o, td, rest, hE, hr, hl, hO, hTd, hne, hTn, hBw⟩ := hrel
    have HR := hide hr
    have HTN := hide hTn
    have HNE := hide hne
    clear hr hTn hne
    obtain ⟨oa, oc, rfl, _⟩ := hO.shape
    obtain ⟨tb, toff, tcap, rfl, hAt, htc, htm, htl⟩ := hTd
    cases td with
    | nil =>
      cases hE with
      | nil =>
        have hl' : o.length ≤ 40 := by simpa using hl
        have HO := hide hO
        simp only [List.length_nil]
        clear hO hAt
        go_wp2
        go_ret2
        have := unhide HR
        rw [List.append_nil] at this
        subst this
        exact full_yes (unhide HO) hl' hBw
    | cons c td =>
      obtain ⟨c0, c1, c2⟩ := hAt 0 (by simp)
      simp only [List.getElem_cons_zero, Nat.zero_mul, Nat.add_zero] at c0 c1 c2
      obtain ⟨off', hoff, hTail⟩ := td_tail hAt htc htm htl
      simp only [List.length_cons] at hl htc
      have hW1 : Below wr.heap.size wr ((wr.alloc (.cells #[.int .i64 c.k, .int .i64 c.n, .string c.s] 36)).alloc (.cells #[] 36)) := below2 _ _ _
      have hs2 : ((wr.alloc (.cells #[.int .i64 c.k, .int .i64 c.n, .string c.s] 36)).alloc (.cells #[] 36)).heap.size = wr.heap.size + 2 := by simp
      have HO := hide hO
      have HTL := hide hTail
      have hsz := hBw.size
      have HNE' : Hid ((Value.slice (some ⟨tb, off', none⟩) td.length (tcap - 1)).ownBlock ≠ (Value.slice oa o.length oc).ownBlock) := unhide HNE
      clear HNE
      have HNE := HNE'
      clear HNE' hO hTail hAt
      by_cases hk1 : c.k = 1
      · have hkb : (c.k == 1) = true := by simpa using hk1
        have HG := hide (l2Get_any ao cap s c.n ((wr.alloc (.cells #[.int .i64 c.k, .int .i64 c.n, .string c.s] 36)).alloc (.cells #[] 36)) hs ((hA.below hBw).below hW1))
        have hgl : (getB s c.n).length ≤ 1048576 := hst c.n
        cases hE with
        | @keep n2 _ _ rest2 hkeep hE2 =>
          have hg0 := hkeep hk1
          rw [hg0] at HG
          clear hkeep hk1 hg0
          go_wp2_with fail
          refine (unhide HG).mono ?_
          clear HG
          rintro e w4 ⟨ga, gc, rfl, _, _, _, hb4⟩
          have hb4x := bstep hW1 hb4
          have hOw4 : OwnC w4 w.heap.size (.slice oa o.length oc) o := (unhide HO).below hb4x
          have e0 := (hb4.cell (p := ⟨wr.heap.size, 0, none⟩) (by first | omega | (simp; omega))).trans (show _ = some (.int .i64 c.k) by simp [go_sem])
          have e1 := (hb4.cell (p := ⟨wr.heap.size, 1, none⟩) (by first | omega | (simp; omega))).trans (show _ = some (.int .i64 c.n) by simp [go_sem])
          have e2 := (hb4.cell (p := ⟨wr.heap.size, 2, none⟩) (by first | omega | (simp; omega))).trans (show _ = some (.string c.s) by simp [go_sem])
          have hs4 := hb4x.size
          simp only [List.length_nil]
          go_wp2_with (at_builtin; refine wpList_append_lies _ rfl _ _ 23 rfl w.heap.size 36 i0 _ 3 32 Try.underlying23 hi hz0 hz1 hz2 rfl (by decide) _ o.length _ rfl (World.ownsRow.alloc hOw4 _) ⟨w4.heap.size, 0, none⟩ 1 1 [.int .i64 c.k, .int .i64 c.n, .string c.s] rfl rfl (three_at _ _ _ _ _ _ (by first | rfl | simp)) (by simp [Value.oneCell']) (by omega) (by unfold maxLen; omega) (by omega) (by first | omega | (simp; omega)) (w4.heap.size + 1) (by simp) ?_)
          intro g' cap' w5 hown' hgrow hat hgl'
          have hO5 : OwnC w5 w.heap.size (.slice (some ⟨g', 0, none⟩) (o.length + 1) cap') (o ++ [c]) := by
            unfold OwnC
            rw [flat_append, show (o ++ [c]).length = o.length + 1 by simp]
            exact hown'
          have hT5 := (((unhide HTL).below (hb4x)).below (cell_below _ (.cells #[.int .i64 c.k, .int .i64 c.n, .string c.s] 36))).apart hgrow (unhide HNE)
          have hN5 : (Value.slice (some ⟨tb, off', none⟩) td.length (tcap - 1)).ownBlock ≠ (Value.slice (some ⟨g', 0, none⟩) (o.length + 1) cap').ownBlock := fun e => by
            have e' : tb = g' := by simpa [Value.ownBlock] using e
            rcases hat with h | h
            · exact unhide HNE (by rw [h, e']; rfl)
            · omega
          have hB5 : Below w.heap.size w w5 := ((hBw.trans ((hb4x).mono hsz)).alloc (by first | omega | (simp; omega)) _).grown hgrow (by first | omega | (simp; omega)) (fun q e => ((unhide HO).lt q e).1)
          have HO5 := hide hO5
          have HT5 := hide hT5
          have HN5 := hide hN5
          have hro : o ++ [c] ++ rest2 = t' := by rw [← unhide HR]; simp
          have HRO := hide hro
          have HEX := hide hE2
          clear hO5 hT5 hN5 hown' hgrow hat hgl' hro hE2
          go_wp2
          go_roundg n2
          case measure => omega
          case rel => exact ⟨o ++ [c], td, rest2, unhide HEX, unhide HRO, by simp; omega, by simpa using unhide HO5, unhide HT5, unhide HN5, by simp [Value.ownBlock], hB5⟩

        | @sub m2 n2 _ _ rest2 bb hk hb hEb hE2 =>
          clear hk1 hk
          go_wp2_with fail
          refine (unhide HG).mono ?_
          clear HG
          rintro e w4 ⟨ga, gc, rfl, hgc1, hgc2, hRg, hb4⟩
          have hb4x := bstep hW1 hb4
          have hOw4 : OwnC w4 w.heap.size (.slice oa o.length oc) o := (unhide HO).below hb4x
          have hT4 := (unhide HTL).below hb4x
          have hs4 := hb4x.size
          have hbp : 1 ≤ (getB s c.n).length := List.length_pos_iff.2 hb
          obtain ⟨gb, goff, rfl, hAg⟩ : ∃ b off, ga = some ⟨b, off, none⟩ ∧ At w4 b off (getB s c.n) := by
            rcases hRg with h | h
            · exact absurd h hb
            · exact h
          have hlb := hEb.len
          have hlr := hE2.len
          have HEX : Hid (Exp s (m2 + n2) (getB s c.n ++ td) (bb ++ rest2)) := hEb.append hE2
          have hrl : t'.length = o.length + (bb.length + rest2.length) := by rw [← unhide HR]; simp
          have HRO : Hid (o ++ (bb ++ rest2) = t') := unhide HR
          clear hRg hb hEb hE2
          obtain ⟨gt, hgt⟩ : ∃ gt, gt = getB s c.n := ⟨_, rfl⟩
          rw [← hgt] at hAg hgl hbp hlb HEX hgc1
          rw [← hgt]
          clear hgt
          obtain ⟨tb2, to2, tc2, etl, hAtl, _, _, htbl⟩ := hT4
          simp only [Value.slice.injEq, Option.some.injEq, Addr.mk.injEq] at etl
          obtain ⟨⟨rfl, rfl, _⟩, _, rfl⟩ := etl
          have hA5 : At (w4.alloc (.cells #[] 36)) gb goff gt := hAg.below (cell_below _ _)
          go_wp2_with (at_builtin; refine wpList_append_own _ rfl (.tmp 33) (.tmp 34) 23 rfl w4.heap.size 36 i0 _ 3 32 Try.underlying23 hi hz0 hz1 hz2 rfl (by decide) _ _ _ rfl (World.ownsRow_made w4 #[] 0 (Nat.le_refl _) (by simp [maxLen]) rfl) ⟨gb, goff, none⟩ gt.length gc (flat gt) rfl (flat_length gt) hA5.each (flat_one gt) (by unfold maxLen; omega) (by omega) (by simp) ?_)
          intro v5 w5 ho5 hG5 _
          have hO5 : OwnC w5 w4.heap.size v5 gt := by simpa [OwnC] using ho5
          have hB45 : Below w4.heap.size w4 w5 := ((Below.refl _ w4).alloc (Nat.le_refl _) _).grown hG5 (by simp) (fun k e => by simp [Value.ownBlock] at e; omega)
          clear ho5 hG5
          have hA6 := hAtl.below hB45
          obtain ⟨ra, rc, rfl, _⟩ := hO5.shape
          go_wp2_with (at_builtin; refine wpList_append_own _ rfl (.tmp 35) (.tmp 36) 23 rfl w4.heap.size 36 i0 _ 3 32 Try.underlying23 hi hz0 hz1 hz2 rfl (by decide) _ gt.length _ rfl hO5 ⟨tb, off', none⟩ td.length (tcap - 1) (flat td) rfl (flat_length td) hA6.each (flat_one td) (by unfold maxLen; omega) (by omega) hB45.size ?_)
          intro v6 w6 ho6 hG6 _
          have hO6 : OwnC w6 w4.heap.size v6 (gt ++ td) := by unfold OwnC; rw [flat_append, List.length_append]; exact ho6
          have hB46 : Below w4.heap.size w4 w6 := hB45.grown hG6 hB45.size (fun k e => (hO5.lt k e).1)
          have hBw6 := bstep (bstep hBw hb4x) hB46
          have hOw6 := hOw4.below hB46
          obtain ⟨hTd6, hTn6⟩ := own_td hO6 (by simp; omega)
          have hne6 : v6.ownBlock ≠ (Value.slice oa o.length oc).ownBlock := fun e => by
            cases hq : v6.ownBlock with
            | none => exact hTn6 hq
            | some q =>
              rw [hq] at e
              have h1 := (hO6.lt q hq).1
              have h2 := ((unhide HO).lt q e.symm).2
              omega
          obtain ⟨sa, sc, rfl, _⟩ := hO6.shape
          have HO6 := hide hOw6
          have HT6 := hide hTd6
          have HN6 := hide hne6
          have HTN6 := hide hTn6
          clear ho6 hG6 hO6 hO5 hA6 hAtl hA5 hAg hTd6 hne6 hTn6 hOw6 hOw4 hB45
          have hgl2 : (gt ++ td).length = gt.length + td.length := by simp
          rw [hgl2]
          by_cases hbig : 40 < o.length + (gt.length + td.length)
          · go_wp2
            go_ret2
            refine full_no ?_ (by omega) (bstep hBw6 (cell_below _ _))
            exact World.ownsRow_made _ #[] 0 hBw6.size (by simp [maxLen]) rfl
          · go_wp2
            go_roundg (m2 + n2)
            case measure => omega
            case rel => exact ⟨o, gt ++ td, bb ++ rest2, unhide HEX, unhide HRO, by simp; omega, unhide HO6, by simpa using unhide HT6, by simpa using unhide HN6, by simpa using unhide HTN6, hBw6⟩
      · have hkb : (c.k == 1) = false := by simpa using hk1
        cases hE with
        | sub hk => exact absurd hk hk1
        | @keep n2 _ _ rest2 hkeep hE2 =>
        clear hkeep hk1
        go_wp2_with (at_builtin; refine wpList_append_lies _ rfl _ _ 23 rfl w.heap.size 36 i0 _ 3 32 Try.underlying23 hi hz0 hz1 hz2 rfl (by decide) _ o.length _ rfl (World.ownsRow.alloc (World.ownsRow.alloc (World.ownsRow.alloc (unhide HO) _) _) _) ⟨(wr.heap.size + 1 + 1), 0, none⟩ 1 1 [.int .i64 c.k, .int .i64 c.n, .string c.s] rfl rfl (three_at _ _ _ _ _ _ (by first | rfl | simp)) (by simp [Value.oneCell']) (by omega) (by unfold maxLen; omega) (by omega) (by first | omega | (simp; omega)) ((wr.heap.size + 1 + 1) + 1) (by simp) ?_)
        intro g' cap' w5 hown' hgrow hat hgl'
        have hO5 : OwnC w5 w.heap.size (.slice (some ⟨g', 0, none⟩) (o.length + 1) cap') (o ++ [c]) := by
          unfold OwnC
          rw [flat_append, show (o ++ [c]).length = o.length + 1 by simp]
          exact hown'
        have hT5 := (((unhide HTL).below (hW1)).below (cell_below _ (.cells #[.int .i64 c.k, .int .i64 c.n, .string c.s] 36))).apart hgrow (unhide HNE)
        have hN5 : (Value.slice (some ⟨tb, off', none⟩) td.length (tcap - 1)).ownBlock ≠ (Value.slice (some ⟨g', 0, none⟩) (o.length + 1) cap').ownBlock := fun e => by
          have e' : tb = g' := by simpa [Value.ownBlock] using e
          rcases hat with h | h
          · exact unhide HNE (by rw [h, e']; rfl)
          · omega
        have hB5 : Below w.heap.size w w5 := ((hBw.trans ((hW1).mono hsz)).alloc (by first | omega | (simp; omega)) _).grown hgrow (by first | omega | (simp; omega)) (fun q e => ((unhide HO).lt q e).1)
        have HO5 := hide hO5
        have HT5 := hide hT5
        have HN5 := hide hN5
        have hro : o ++ [c] ++ rest2 = t' := by rw [← unhide HR]; simp
        have HRO := hide hro
        have HEX := hide hE2
        clear hO5 hT5 hN5 hown' hgrow hat hgl' hro hE2
        go_wp2
        go_roundg n2
        case measure => omega
        case rel => exact ⟨o ++ [c], td, rest2, unhide HEX, unhide HRO, by simp; omega, by simpa using unhide HO5, unhide HT5, unhide HN5, by simp [Value.ownBlock], hB5⟩

end Go.Proofs.Ytddhjafpacgdaaa

/- The walks of l2Meet and of the specification's SubUnify. -/
namespace Go.Proofs.Ytddhjafpacgdaaa
open Go.RowKit
set_option linter.unusedVariables false
set_option linter.unusedSimpArgs false

/-- What l2Meet tells; it may have turned the bindings that it was given. -/
def MeetOut (o : List B) (h : Int) (lo : Nat) (sv : Value) (w : World) (e : Ending) (w' : World) : Prop := ∃ v, e = .returned (.tuple #[v, .int .i64 h]) ∧ OwnB w' lo w'.heap.size v o ∧ w.grownBy w' sv.ownBlock

theorem ownB_made (w : World) (lo : Nat) (hlo : lo ≤ w.heap.size) : OwnB (w.alloc (.cells #[] 51)) lo (w.alloc (.cells #[] 51)).heap.size (.slice (some ⟨w.heap.size, 0, none⟩) 0 0) [] :=
  ⟨[], rfl, by simpa [flatB] using World.ownsRow_made (base := lo) (e := 51) (size := 2) w #[] 0 hlo (by simp [maxLen]) rfl, fun i h => by simp at h, by simp, by simp, fun k e => by simp [Value.ownBlock] at e; simp; omega⟩
theorem grown3 {w w2 w3 : World} {row : Option Nat} (h : Below w.heap.size w w2) (hg : w2.grownBy w3 row) : w.grownBy w3 row := ⟨hg.os.trans h.os, hg.tape.trans h.tape, hg.output.trans h.output, Nat.le_trans h.size hg.size, fun k hk hn => (hg.block k (Nat.lt_of_lt_of_le hk h.size) hn).trans (h.block k hk)⟩
theorem grown4 {w w2 : World} {row : Option Nat} (h : Below w.heap.size w w2) : w.grownBy w2 row := ⟨h.os, h.tape, h.output, h.size, fun k hk _ => h.block k hk⟩
theorem tdT_at {w : World} {b off n cap : Nat} {t : List C} (h : TdT w (.slice (some ⟨b, off, none⟩) n cap) t) : At w b off t := by
  obtain ⟨b', off', cap', cur, e, hA, _⟩ := h
  simp only [Value.slice.injEq, Option.some.injEq, Addr.mk.injEq] at e
  obtain ⟨⟨rfl, rfl, _⟩, _, _⟩ := e
  exact hA

set_option maxRecDepth 100000 in
set_option maxHeartbeats 2000000 in
theorem l2Meet_any (ao : Option Addr) (cap lo : Nat) (s sf : List B) (ab aoff acp bb boff bcp : Nat) (a b a' b' a'' : List C) (res : Option (List B)) (w : World) (hlo : lo ≤ w.heap.size) (hO : OwnB w lo w.heap.size (.slice ao s.length cap) s) (hs : OkB s) (hrg : ∀ x ∈ s, 0 ≤ x.v ∧ x.v ≤ 99999) (hsh : ∀ x ∈ s, x.t.length ≤ 40)
    (hA : TdT w (.slice (some ⟨ab, aoff, none⟩) a.length acp) a) (hB : TdT w (.slice (some ⟨bb, boff, none⟩) b.length bcp) b) (hAt : At w ab aoff a) (hBt : At w bb boff b) (ha : trm a = true) (hb : trm b = true) (hw : UW s a b a' b' res sf a'') :
    Calls Try.prog 79 #[.slice ao s.length cap, .slice (some ⟨ab, aoff, none⟩) a.length acp, .slice (some ⟨bb, boff, none⟩) b.length bcp] w (MeetOut (uwO a' b' res a'') (uwH a' b' res a'') lo (.slice ao s.length cap) w) := by
  obtain ⟨⟨n1, hEa⟩, ⟨n2, hEb⟩, ⟨n, hU⟩, hEc⟩ := hw
  have hla := trm_len ha
  have hlb := trm_len hb
  have hR := Room.begin hU hs hrg hsh (trm_Trm ha) (trm_Trm hb) hla.2 hlb.2
  have hsl : s.length ≤ 100000 := range_len hs.once hrg
  have H1 := hide (l2Full_wide ao cap s ab aoff acp a a' n1 w (by omega) (fun v => Nat.le_trans (hR.getlen v) (by omega)) hla.2 hla.1 hEa hO.row hAt)
  have H2 := hide (fun (w1 : World) (hb1 : Below w.heap.size w w1) => l2Full_wide ao cap s bb boff bcp b b' n2 w1 (by omega) (fun v => Nat.le_trans (hR.getlen v) (by omega)) hlb.2 hlb.1 hEb (hO.row.below hb1) (hBt.below hb1))
  have H3 := hide (fun (w1 : World) (hb1 : Below w.heap.size w w1) => l2Unify_any ao cap lo s sf _ _ a b n res w1 (Nat.le_trans hlo hb1.size) ((hO.below (Nat.le_refl _) hb1).hi_le hb1.size) (hA.below hb1) (hB.below hb1) hU hR)
  have H4 := hide (fun (s' : List B) (hres : res = some s') => by
    have hR' := hU.room hR s' hres
    obtain ⟨n3, h3⟩ := hEc s' hres
    exact (⟨hR'.len, fun v => Nat.le_trans (hR'.getlen v) (by omega), n3, h3⟩ : s'.length ≤ 100000 ∧ (∀ v, (getB s' v).length ≤ 1048576) ∧ ∃ n3, Exp s' n3 a a''))
  obtain ⟨us, hO1, hO2, hO3, hO4, hO5, hO6⟩ := hO
  have HOWN : Hid (∀ k, (Value.slice ao s.length cap).ownBlock = some k → w.heap[k]? ≠ none) := fun k e he => by
    have := (hO2.lt k e).2
    rw [Array.getElem?_eq_none_iff] at he
    omega
  have HAP := hide (fun (w1 w2 : World) (hb1 : Below w.heap.size w w1) (hg : w1.grownBy w2 (Value.slice ao s.length cap).ownBlock) => (hA.below hb1).apart hg (own_below hO2 hb1) (by decide))
  clear hU hEa hEb hEc hR hs hrg hsh ha hb hO2 hO3
  go_enter Try.func79, Try.ntmps79
  go_wp2_with fail
  refine (unhide H1).mono ?_
  rintro e w1 ⟨v1, _, rfl, hb1⟩
  go_wp2_with fail
  refine (unhide H2 w1 hb1).mono ?_
  rintro e w2 ⟨v2, _, rfl, hb2⟩
  have hB2 := bstep hb1 hb2
  clear H1 H2
  by_cases h12 : a'.length ≤ 40 ∧ b'.length ≤ 40
  · have h1b : decide (a'.length ≤ 40) = true := by simpa using h12.1
    have h2b : decide (b'.length ≤ 40) = true := by simpa using h12.2
    have H12 := hide h12
    clear h12
    go_wp2_with fail
    refine (unhide H3 w2 hB2).mono ?_
    rintro e w3 ⟨u, rfl, hu, hg3, hub⟩
    have hG3 := grown3 hB2 hg3
    cases res with
    | none =>
      have HF : Hid (MeetOut (uwO a' b' none a'') (uwH a' b' none a'') lo (.slice ao s.length cap) w (.returned (.tuple #[.slice (some ⟨w3.heap.size, 0, none⟩) 0 0, .int .i64 2])) (w3.alloc (.cells #[] 51))) := by
        have e1 : uwH a' b' none a'' = 2 := by unfold uwH; rw [if_pos (unhide H12)]
        have e2 : uwO a' b' none a'' = [] := by unfold uwO; rw [if_pos (unhide H12)]
        rw [e1, e2]
        exact ⟨_, rfl, ownB_made w3 lo (Nat.le_trans hlo hG3.size), grownBy_then hG3 (cell_below _ _)⟩
      simp only [Option.isSome_none]
      clear hu hg3 hub hG3
      go_wp2
      go_ret2
      exact unhide HF
    | some s' =>
      have hO3 := hu s' rfl
      obtain ⟨hl', hgl', n3, hE3⟩ := unhide H4 s' rfl
      obtain ⟨ua, uc, rfl, _, _, hru⟩ := hO3.shape
      have hAt3 := tdT_at (unhide HAP w2 w3 hB2 hg3)
      have H5 := hide (l2Full_wide ua uc s' ab aoff acp a a'' n3 w3 (by omega) hgl' hla.2 hla.1 hE3 hru hAt3)
      have HO3 := hide hO3
      simp only [Option.isSome_some]
      clear hu hg3 hub hO3 hE3 hru hAt3 hgl'
      go_wp2_with fail
      refine (unhide H5).mono ?_
      rintro e w4 ⟨v4, _, rfl, hb4⟩
      by_cases h3 : a''.length ≤ 40
      · have h3b : decide (a''.length ≤ 40) = true := by simpa using h3
        have HF : Hid (MeetOut (uwO a' b' (some s') a'') (uwH a' b' (some s') a'') lo (.slice ao s.length cap) w (.returned (.tuple #[.slice ua s'.length uc, .int .i64 1])) w4) := by
          have e1 : uwH a' b' (some s') a'' = 1 := by unfold uwH; rw [if_pos (unhide H12)]; simp [h3]
          have e2 : uwO a' b' (some s') a'' = s' := by unfold uwO; rw [if_pos (unhide H12)]; simp [h3]
          rw [e1, e2]
          exact ⟨_, rfl, ((unhide HO3).below (Nat.le_refl _) hb4).hi_le hb4.size, grownBy_then hG3 hb4⟩
        clear h3
        go_wp2
        go_ret2
        exact unhide HF
      · have h3b : decide (a''.length ≤ 40) = false := by simpa using h3
        have HF : Hid (MeetOut (uwO a' b' (some s') a'') (uwH a' b' (some s') a'') lo (.slice ao s.length cap) w (.returned (.tuple #[.slice (some ⟨w4.heap.size, 0, none⟩) 0 0, .int .i64 3])) (w4.alloc (.cells #[] 51))) := by
          have e1 : uwH a' b' (some s') a'' = 3 := by unfold uwH; rw [if_pos (unhide H12)]; simp [h3]
          have e2 : uwO a' b' (some s') a'' = [] := by unfold uwO; rw [if_pos (unhide H12)]; simp [h3]
          rw [e1, e2]
          exact ⟨_, rfl, ownB_made w4 lo (Nat.le_trans hlo (Nat.le_trans hG3.size hb4.size)), grownBy_then (grownBy_then hG3 hb4) (cell_below _ _)⟩
        clear h3
        go_wp2
        go_ret2
        exact unhide HF
  · have HF : Hid (MeetOut (uwO a' b' res a'') (uwH a' b' res a'') lo (.slice ao s.length cap) w (.returned (.tuple #[.slice (some ⟨w2.heap.size, 0, none⟩) 0 0, .int .i64 3])) (w2.alloc (.cells #[] 51))) := by
      have e1 : uwH a' b' res a'' = 3 := by unfold uwH; rw [if_neg h12]
      have e2 : uwO a' b' res a'' = [] := by unfold uwO; rw [if_neg h12]
      rw [e1, e2]
      exact ⟨_, rfl, ownB_made w2 lo (Nat.le_trans hlo hB2.size), grown4 (bstep hB2 (cell_below _ _))⟩
    by_cases h1 : a'.length ≤ 40
    · have h1b : decide (a'.length ≤ 40) = true := by simpa using h1
      have h2b : decide (b'.length ≤ 40) = false := by
        have : ¬ b'.length ≤ 40 := fun h => h12 ⟨h1, h⟩
        simpa using this
      clear h12 h1
      go_wp2
      go_ret2
      exact unhide HF
    · have h1b : decide (a'.length ≤ 40) = false := by simpa using h1
      clear h12 h1
      go_wp2
      go_ret2
      exact unhide HF
end Go.Proofs.Ytddhjafpacgdaaa
