/- The reader of texts of the program: the walks of term and TrmRead. -/
import Derived.Test.YtjjpmlcaapedhaaDoorQRR4
import Derived.Test.YtjjpmlcaapedhaaDoorQRR5
namespace Go.Proofs.YtjjpmlcaapedhaaDoor
open Go.RowKit Go.Shelf
set_option linter.unusedVariables false
set_option linter.unusedSimpArgs false

def oneR (f : Nat) (o : Option (C × List UInt8)) : Option (List C × List UInt8 × Nat) := match o with
  | none => none
  | some (c, r') => some ([c], r', f)
theorem got_num {R f : Nat} {w w2 : World} {o : Option (C × List UInt8)} (hg : w.grownBy w2 (some R)) {e : Ending} {w' : World} (h : GotN R (40 - (f : Int)) w2 o e w') :
    GotR R w (f + 1) (oneR f o) e w' := by
  obtain ⟨hg2, h⟩ := h
  refine ⟨grownR_trans hg hg2, ?_⟩
  cases o with
  | none => exact h
  | some x =>
    obtain ⟨c, r⟩ := x
    obtain ⟨q, rfl, hq, hn, hr⟩ := h
    exact ⟨q, [(q, c)], rfl, rfl, ⟨c, [], none, 0, rfl, ⟨Nat.le_trans hg.size hq, hn.lt⟩, by simp, hn, .inl rfl, by simp⟩, hr⟩

set_option maxRecDepth 100000 in
set_option maxHeartbeats 4000000 in
theorem term_all (R : Nat) : ∀ f, f ≤ 40 → TermOk R f := by
  intro f
  induction f using Nat.strongRecOn with
  | _ f ih =>
    intro hf w l h hl hE
    have hlt := h.lt
    have c0 := h.c0
    have c1 := h.c1
    have f1 := h.f1
    have hwr : IntKind.i64.wrap (40 - (f : Int) + 1) = 40 - (f : Int) + 1 := by simp [IntKind.wrap, IntKind.bits, IntKind.signed]; omega
    have hG1 := grownR_set w R 1 (.int .i64 (40 - (f : Int) + 1))
    have hR1 := h.set1 (40 - (f : Int) + 1)
    cases f with
    | zero =>
      have hn : rtT 0 l = none := by rw [rtT]
      rw [hn]
      go_enter Tryd.func22, Tryd.ntmps22
      go_wp2
      go_ret
      exact ⟨hG1, rfl⟩
    | succ f =>
      have e1 : 40 - ((f + 1 : Nat) : Int) + 1 = 40 - (f : Int) := by omega
      have HIH := hide (fun g (hg : g ≤ f) => ih g (by omega) (by omega))
      obtain ⟨p, hpe⟩ : ∃ p : Int, p = 40 - ((f + 1 : Nat) : Int) := ⟨_, rfl⟩
      obtain ⟨q, hq⟩ : ∃ q : Int, q = 40 - (f : Int) := ⟨_, rfl⟩
      have hwr2 : IntKind.i64.wrap (p + 1) = q := by rw [hpe, hwr]; omega
      rw [← hpe] at c1
      rw [e1, ← hq] at hG1 hR1
      have HE := hide (hE.grown hG1)
      have hp : ¬ (q > 40) := by omega
      have HQ := hide hq
      clear h hE ih e1 hwr hpe hq
      cases l with
      | nil =>
        have hn : rtT (f + 1) [] = none := by rw [rtT]; rfl
        rw [hn]
        have hs0 : (mkS []).toList.isEmpty = true := by rw [ByteArray.toList_eq]; rfl
        go_enter Tryd.func22, Tryd.ntmps22
        go_wp2
        go_ret
        exact ⟨hG1, rfl⟩
      | cons b r =>
        have hs := mkS_size (b :: r)
        have hne : (mkS (b :: r)).toList.isEmpty = false := by rw [ByteArray.toList_eq]; simp [mkS]
        have hget : (mkS (b :: r)).data[0]? = some b := by simp [mkS]
        have hget2 : (mkS (b :: r))[0]'(by rw [hs]; simp) = b := by
          show (mkS (b :: r)).data[0]'(by simp [mkS]) = b
          simp [mkS]
        have HRT := hide (rtT_cons f b r)
        obtain ⟨W, hW⟩ : ∃ W, W = w.setCell ⟨R, 1, none⟩ (.int .i64 q) := ⟨_, rfl⟩
        rw [← hW] at hG1 hR1 HE
        have HSX := hide (skip_any W R (b :: r) 88 q hR1)
        have HW := hide hW
        go_enter Tryd.func22, Tryd.ntmps22
        go_wp2_with (go_at_call 37; fail)
        try rw [← hW]
        clear hW HW hp hwr2 c0 c1 f1
        have hlr : r.length ≤ 1000000000 := by simp at hl; omega
        by_cases h1 : b = 88
        · subst h1
          simp only [List.head?_cons, decide_true, if_true, List.tail_cons] at HSX
          have HN := hide (show rtT (f + 1) (88 :: r) = oneR f (numRes 1 1 r) from by rw [unhide HRT, if_pos rfl] <;> rfl)
          refine (unhide HSX).mono ?_
          rintro e w2 ⟨rfl, hR2, hg2⟩
          have hE2 := (unhide HE).grown hg2
          have HNU := hide (number_any w2 R r q 1 1 hR2 hlr (.inl rfl) hE2.err (hE2.ten w2 (grownR_refl _ _)) hE2.ten)
          go_wp2_with fail
          refine (unhide HNU).mono ?_
          intro e w3 hn3
          rw [unhide HQ] at hn3
          have hgr := got_num (grownR_trans hG1 hg2) hn3
          rw [← unhide HN] at hgr
          cases hnr : numRes 1 1 r with
          | none =>
            rw [hnr] at hn3
            obtain ⟨_, rfl⟩ := hn3
            have HGR := hide hgr
            clear hgr
            go_wp2
            go_ret
            exact unhide HGR
          | some x =>
            rw [hnr] at hn3
            obtain ⟨_, qq, rfl, _⟩ := hn3
            have HGR := hide hgr
            clear hgr
            go_wp2
            go_ret
            exact unhide HGR
        · have h1' : ¬ ((b :: r).head? = some 88) := fun e => h1 (Option.some.inj e)
          simp only [h1', decide_false, if_false] at HSX
          refine (unhide HSX).mono ?_
          rintro e w2 ⟨rfl, hR2, hg2⟩
          have HSM := hide (skip_any w2 R (b :: r) 45 q hR2)
          have hG2 := grownR_trans hG1 hg2
          have HE2 := hide ((unhide HE).grown hg2)
          clear HSX hg2 HE h1'
          go_wp2_with fail
          by_cases h2 : b = 45
          · subst h2
            simp only [List.head?_cons, decide_true, if_true, List.tail_cons] at HSM
            have HN := hide (show rtT (f + 1) (45 :: r) = oneR f (numRes 2 (-1) r) from by rw [unhide HRT, if_neg h1, if_pos rfl] <;> rfl)
            refine (unhide HSM).mono ?_
            rintro e w3 ⟨rfl, hR3, hg3⟩
            have hE3 := (unhide HE2).grown hg3
            have HNU := hide (number_any w3 R r q 2 (-1) hR3 hlr (.inr rfl) hE3.err (hE3.ten w3 (grownR_refl _ _)) hE3.ten)
            go_wp2_with fail
            refine (unhide HNU).mono ?_
            intro e w4 hn3
            rw [unhide HQ] at hn3
            have hgr := got_num (grownR_trans hG2 hg3) hn3
            rw [← unhide HN] at hgr
            cases hnr : numRes 2 (-1) r with
            | none =>
              rw [hnr] at hn3
              obtain ⟨_, rfl⟩ := hn3
              have HGR := hide hgr
              clear hgr
              go_wp2
              go_ret
              exact unhide HGR
            | some x =>
              rw [hnr] at hn3
              obtain ⟨_, qq, rfl, _⟩ := hn3
              have HGR := hide hgr
              clear hgr
              go_wp2
              go_ret
              exact unhide HGR
          · have h2' : ¬ ((b :: r).head? = some 45) := fun e => h2 (Option.some.inj e)
            simp only [h2', decide_false, if_false] at HSM
            refine (unhide HSM).mono ?_
            rintro e w3 ⟨rfl, hR3, hg3⟩
            have hG3 := grownR_trans hG2 hg3
            have HE3 := hide ((unhide HE2).grown hg3)
            have c3 := hR3.c0
            have HDG := hide (fun (W : World) => isDigitB_any b W)
            clear HSM hg3 HE2 h2' hG2
            cases hdg : dig b with
            | true =>
              rw [hdg] at HDG
              have HN := hide (show rtT (f + 1) (b :: r) = oneR f (numRes 2 1 (b :: r)) from by rw [unhide HRT, if_neg h1, if_neg h2, if_pos hdg] <;> rfl)
              have HNU := hide (number_any w3 R (b :: r) q 2 1 hR3 hl (.inl rfl) (unhide HE3).err ((unhide HE3).ten w3 (grownR_refl _ _)) (unhide HE3).ten)
              clear HRT
              go_wp2_with (go_at_call 39; refine (unhide HDG _).mono ?_; rintro e w4 ⟨rfl, rfl⟩)
              refine (unhide HNU).mono ?_
              intro e w5 hn3
              rw [unhide HQ] at hn3
              have hgr := got_num hG3 hn3
              rw [← unhide HN] at hgr
              cases hnr : numRes 2 1 (b :: r) with
              | none =>
                rw [hnr] at hn3
                obtain ⟨_, rfl⟩ := hn3
                have HGR := hide hgr
                clear hgr
                go_wp2
                go_ret
                exact unhide HGR
              | some x =>
                rw [hnr] at hn3
                obtain ⟨_, qq, rfl, _⟩ := hn3
                have HGR := hide hgr
                clear hgr
                go_wp2
                go_ret
                exact unhide HGR
            | false =>
              rw [hdg] at HDG
              have HN := hide (show rtT (f + 1) (b :: r) = nameRes f (b :: r) from by rw [unhide HRT, if_neg h1, if_neg h2, if_neg (by rw [hdg]; simp)])
              rw [unhide HQ] at hR3
              have HNU := hide (name_any R f (by omega) (unhide HIH) w3 (b :: r) hR3 hl (unhide HE3))
              clear HRT HIH
              go_wp2_with (go_at_call 39; refine (unhide HDG _).mono ?_; rintro e w4 ⟨rfl, rfl⟩)
              refine (unhide HNU).mono ?_
              intro e w5 hn3
              have hgr : GotR R w (f + 1) (rtT (f + 1) (b :: r)) e w5 := by
                rw [unhide HN]
                obtain ⟨hg5, h5⟩ := hn3
                refine ⟨grownR_trans hG3 hg5, ?_⟩
                cases hnn : nameRes f (b :: r) with
                | none => rw [hnn] at h5; exact h5
                | some x =>
                  rw [hnn] at h5
                  obtain ⟨t', r', g'⟩ := x
                  obtain ⟨qq, z, rfl, hz, hT, hr⟩ := h5
                  exact ⟨qq, z, rfl, hz, hT.kept (fun b hb => ⟨Nat.le_trans hG3.size hb.1, hb.2⟩) (fun _ _ => rfl), hr⟩
              obtain ⟨_, h5⟩ := hn3
              cases hnn : nameRes f (b :: r) with
              | none =>
                rw [hnn] at h5
                subst h5
                have HGR := hide hgr
                clear hgr
                go_wp2
                go_ret
                exact unhide HGR
              | some x =>
                rw [hnn] at h5
                obtain ⟨t', r', g'⟩ := x
                obtain ⟨qq, z, rfl, _⟩ := h5
                have HGR := hide hgr
                clear hgr
                go_wp2
                go_ret
                exact unhide HGR
end Go.Proofs.YtjjpmlcaapedhaaDoor
