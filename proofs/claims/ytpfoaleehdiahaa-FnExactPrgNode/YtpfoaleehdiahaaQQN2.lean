/- PrgNode of the program; the walk of FnExactPrgNode. -/
import Derived.Test.YtpfoaleehdiahaaQQN1
import Derived.Test.YtpfoaleehdiahaaQW5
import Derived.Test.YtpfoaleehdiahaaQW6W7
namespace Go.Proofs.Ytpfoaleehdiahaa
open Go.RowKit Go.Shelf
set_option linter.unusedVariables false
set_option linter.unusedSimpArgs false

theorem own_sl {w : World} {base e size n : Nat} {v : Value} {xs : List Value} (h : w.ownsRow base e size v n xs) : ∃ ao cap, v = .slice ao n cap := by
  rcases h.2 with ⟨e, hn⟩ | ⟨g, cap, cur, e, _⟩
  · exact ⟨none, 0, by rw [e, hn]⟩
  · exact ⟨_, _, e⟩

set_option maxRecDepth 100000 in
set_option maxHeartbeats 4000000 in
theorem implPrgNode_any (x : Pg) (v0 v1 : Value) (ta : Option Addr) (tc : Nat) (t : List C) (w : World) (hF : FitPg x) (hs : szPg x ≤ 1048576) (hv : PgV w x v0 v1) (htc : t.length ≤ tc) (htm : tc ≤ maxLen) (hA : Row w ta t) (hT : Fit t) :
    Calls Try.prog 14 #[.agg #[v0, v1], .slice ta t.length tc] w fun e w' => e = .returned (.int .i64 (nodeZ x t)) ∧ Below w.heap.size w w' := by
  obtain ⟨a0, n0, c0, a1, n1, c1, rfl, rfl⟩ := pgV_sl hv
  obtain ⟨hb0, d0, d1⟩ := two_new w (.slice a0 n0 c0) (.slice a1 n1 c1) 33
  have HP := hide (fun (W : World) (hW : Below w.heap.size w W) => programOf_any x _ _ W hF hs (hv.below hW))
  have HT := hide (fun (W : World) (hW : Below w.heap.size w W) => treeOf_opt w.heap.size ta tc t W hW.size htc htm (hA.below hW) hT)
  have hpl : x.ps.length ≤ 1048576 := by unfold szPg at hs; have := hv.2; omega
  clear hv hA hT hF hs
  go_enter Try.func14, Try.ntmps14
  go_wp2_with fail
  generalize w.alloc (.cells #[.slice a0 n0 c0, .slice a1 n1 c1] 33) = w0 at hb0 d0 d1 ⊢
  refine (unhide HP w0 hb0).mono ?_
  rintro e w1 ⟨wz, hp⟩
  rcases hp with ⟨hp, P, vc, vp, rfl, hM, hb1⟩ | ⟨hp, rfl, hb1⟩
  · have hB1 := bstep hb0 hb1
    have HPT := hide hp
    have HM := hide hM
    have H2 := hide (unhide HT w1 hB1)
    clear hp hM HP HT d0 d1 hb0 hb1
    go_wp2_with fail
    refine (unhide H2).mono ?_
    rintro e w2 ⟨o, rfl, hL, hb2⟩
    have hB2 := bstep hB1 hb2
    rcases hL with ⟨ht, p, rfl, hL⟩ | ⟨ht, rfl⟩
    · obtain ⟨c, r, rfl, k0, k1, k2, hpl2⟩ := treL_top hL
      unfold ptrV
      simp only [Option.map_some]
      by_cases h3 : c.k = 3
      · have hb : (c.k != 3) = false := by simpa using h3
        have hcall : callT (c :: r) = true := by simp [callT, h3]
        have HV := hide (nodeZ_yes (unhide HPT) ht hcall)
        have hM2 := (unhide HM).below hb2
        obtain ⟨pa, pc, rfl⟩ := own_sl hM2.op
        obtain ⟨_, m1, _, _⟩ := program_cells hM2.hp
        have hRP := rowP_own hM2.op
        have HN := hide (node_any P pa pc x.ps c.s c.n w2.drew hpl m1 hRP)
        clear HPT HM hL hM2 hRP h3 hcall H2 ht m1
        go_wp2
        have hB2d := hB2.drew
        go_region_held3 (fun w' => w'.cell? ⟨p, 1, none⟩ = some (.int .i64 c.n) ∧ w'.cell? ⟨p, 2, none⟩ = some (.string c.s)) (first | (refine ⟨?_, ?_⟩ <;> assumption) | go_keep) (first
          | (go_at_call 106; refine (unhide HN).mono ?_; rintro e w3 ⟨rfl, hb3⟩; have j1 := (hb3.cell (p := ⟨p, 1, none⟩) hpl2).trans k1; have j2 := (hb3.cell (p := ⟨p, 2, none⟩) hpl2).trans k2))
        go_wp2
        go_ret
        exact ⟨ret_int (by rw [unhide HV]), bstep hB2d hb3⟩
      · have hb : (c.k != 3) = true := by simpa using h3
        have HV := hide (nodeZ_no (x := x) (t := c :: r) (fun h => by have := h.2.2; simp [callT] at this; exact h3 this))
        clear HPT HM hL h3 H2 ht
        go_wp2
        go_ret
        exact ⟨ret_int (by rw [unhide HV]), hB2⟩
    · have HV := hide (nodeZ_no (x := x) (t := t) (fun h => by rw [ht] at h; cases h.2.1))
      clear ht HPT HM H2
      unfold ptrV
      simp only [Option.map_none]
      go_wp2
      go_ret
      exact ⟨ret_int (by rw [unhide HV]), hB2⟩
  · have hB1 := bstep hb0 hb1
    have HV := hide (nodeZ_no (x := x) (t := t) (fun h => by rw [hp] at h; cases h.1))
    have H2 := hide (unhide HT w1 hB1)
    clear hp HP HT d0 d1 hb0 hb1
    go_wp2_with fail
    refine (unhide H2).mono ?_
    rintro e w2 ⟨o, rfl, hL, hb2⟩
    have hB2 := bstep hB1 hb2
    clear hL H2
    cases o with
    | none =>
      unfold ptrV
      simp only [Option.map_none]
      go_wp2
      go_ret
      exact ⟨ret_int (by rw [unhide HV]), hB2⟩
    | some p =>
      unfold ptrV
      simp only [Option.map_some]
      go_wp2
      go_ret
      exact ⟨ret_int (by rw [unhide HV]), hB2⟩
end Go.Proofs.Ytpfoaleehdiahaa
