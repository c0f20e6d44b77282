/- PrgNode of the specification and of the program. -/
import Derived.Test.YtpfoaleehdiahaaQQX1
import Derived.Test.YtpfoaleehdiahaaQQI3
import Derived.Test.YtpfoaleehdiahaaQG1
import Derived.Test.YtpfoaleehdiahaaQW18GI6
import Derived.Test.YtpfoaleehdiahaaQW4
import Derived.Deep.QuietTactic
import Derived.BigQuiet
namespace Go.Proofs.Ytpfoaleehdiahaa
open Go.RowKit Go.Shelf
set_option linter.unusedVariables false
set_option linter.unusedSimpArgs false

/-- Where a term is called. -/
noncomputable def nodeZ (x : Pg) (t : List C) : Int := if prgB x = true ∧ trm t = true ∧ callT t = true then nodeP x.ps (t.headD ⟨0, 0, ByteArray.empty⟩).s (t.headD ⟨0, 0, ByteArray.empty⟩).n else -1

set_option maxRecDepth 100000 in
set_option maxHeartbeats 2000000 in
theorem l3Node_any (x : Pg) (v0 v1 : Value) (c : C) (r : List C) (tb toff tc : Nat) (w : World) (hs : szPg x ≤ 1048576) (hv : PgV w x v0 v1) (hA : At w tb toff (c :: r)) (hl : (c :: r).length ≤ 40) :
    Calls Try.prog 45 #[.agg #[v0, v1], .slice (some ⟨tb, toff, none⟩) (c :: r).length tc] w fun e w' => e = .returned (.int .i64 (nodeP x.ps c.s c.n)) ∧ Below w.heap.size w w' := by
  unfold szPg at hs
  obtain ⟨⟨xa, xc, rfl, a1, a2, _⟩, ⟨ya, yc, rfl, b1, b2, hP⟩⟩ := hv
  obtain ⟨ps, hps⟩ : ∃ ps, ps = x.ps := ⟨_, rfl⟩
  rw [← hps] at hP b1 hs ⊢
  clear hps
  obtain ⟨hb0, d0, d1⟩ := two_new w (.slice xa x.cs.length xc) (.slice ya ps.length yc) 33
  have hpl : ps.length ≤ 1048576 := by omega
  have HP := hide (fun (W : World) (hW : Below w.heap.size w W) => hP.below hW)
  obtain ⟨s0, s1, s2⟩ := hA 0 (by simp)
  have hbt : tb < w.heap.size := hA.lt (by simp)
  simp only [Nat.zero_mul, Nat.add_zero, List.getElem_cons_zero] at s0 s1 s2
  have hn1 : (0 : Int) < ((c :: r).length : Int) := by simp
  have hn2 : (c :: r).length ≤ 1048576 := by omega
  obtain ⟨tn, htn⟩ : ∃ tn, tn = (c :: r).length := ⟨_, rfl⟩
  rw [← htn] at hn1 hn2 ⊢
  have HS1 := hide (fun (W : World) (hW : Below w.heap.size w W) => (hW.cell (p := ⟨tb, toff + 1, none⟩) hbt).trans s1)
  have HS2 := hide (fun (W : World) (hW : Below w.heap.size w W) => (hW.cell (p := ⟨tb, toff + 2, none⟩) hbt).trans s2)
  clear htn hl hP hA s0 s1 s2 hs a1 a2 b1 b2
  go_enter Try.func45, Try.ntmps45
  go_wp2
  generalize w.alloc (.cells #[.slice xa x.cs.length xc, .slice ya ps.length yc] 33) = w0 at hb0 d0 d1 ⊢
  have hl0 : w.heap.size < w0.heap.size := World.block_lt_of_cell? w0 ⟨_, _, none⟩ d1
  go_loopw [5] (fun i wr => ∃ (k : Nat), k ≤ ps.length ∧ i = .int .i64 k ∧ nodeP ps c.s c.n = nodeP (ps.drop k) c.s c.n ∧ Below w0.heap.size w0 wr) (fun i _ => ps.length - (intOf i).toNat)
  case atStart => exact ⟨0, Nat.zero_le _, rfl, rfl, Below.refl _ _⟩
  case round =>
    obtain ⟨k, hk, rfl, hn, hBr⟩ := hrel
    have HN := hide hn
    have hBw := bstep hb0 hBr
    have e1 := (hBr.cell (p := ⟨w.heap.size, 1, none⟩) hl0).trans d1
    clear hn
    by_cases hlt : k < ps.length
    · rcases unhide HP wr hBw with e | ⟨b, off, e, hA⟩
      · rw [e] at hlt; simp at hlt
      subst e
      obtain ⟨v0, v1, v2, g0, g1, g2, hv⟩ := hA k hlt
      obtain ⟨q0, q1, q2⟩ := hv
      subst q0 q1 q2
      have t1 := unhide HS1 wr hBw
      have t2 := unhide HS2 wr hBw
      have HH := hide (nodeP_hit (s := c.s) (n := c.n) hlt)
      have HM := hide (nodeP_miss (s := c.s) (n := c.n) hlt)
      obtain ⟨y, hy⟩ : ∃ y, y = ps[k] := ⟨_, rfl⟩
      rw [← hy] at g0 g1 g2 HH HM
      clear hy hA
      have hki : (k : Int) < (ps.length : Int) := by omega
      have hk0 : (0 : Int) ≤ (k : Int) := by omega
      by_cases hs : y.s = c.s
      · have hbq : (y.s.toList == c.s.toList) = true := by rw [hs]; simp
        by_cases hnn : y.n = c.n
        · have hbn : (y.n == c.n) = true := by simpa using hnn
          have HV := hide ((unhide HN).trans (unhide HH hs hnn))
          clear HN HH HM hs hnn
          go_wp2
          go_quiet (fail)
          go_wp2
          go_ret
          exact ⟨by rw [unhide HV]; rfl, below_drewN hBw _⟩
        · have HV := hide ((unhide HN).trans (unhide HM (fun h => hnn h.2)))
          have hbn : (y.n == c.n) = false := by simpa using hnn
          clear HN HH HM hnn hs
          go_wp2
          go_quiet (fail)
          go_wp2
          go_roundw
          case rel => exact ⟨k + 1, by omega, by go_num, unhide HV, below_drewN hBr _⟩
          case measure => simp [intOf]; omega
      · have HV := hide ((unhide HN).trans (unhide HM (fun h => hs h.1)))
        have hbq : (y.s.toList == c.s.toList) = false := by rw [ByteArray.toList_eq, ByteArray.toList_eq]; simp only [beq_eq_false_iff_ne]; exact fun h => hs (bytes_ext h)
        clear HN HH HM hs
        go_wp2
        go_quiet (fail)
        go_wp2
        go_roundw
        case rel => exact ⟨k + 1, by omega, by go_num, unhide HV, below_drewN hBr _⟩
        case measure => simp [intOf]; omega
    · have e : k = ps.length := by omega
      subst e
      have HV : Hid (nodeP ps c.s c.n = 0) := by show _ = _; rw [unhide HN, List.drop_length]; rfl
      clear HN
      go_wp2
      go_ret
      exact ⟨by rw [unhide HV]; rfl, hBw⟩

theorem treL_top {lo hi : Nat} {W : World} {p : Nat} {t : List C} (h : TreL lo hi W p t) : ∃ c r, t = c :: r ∧ W.cell? ⟨p, 0, none⟩ = some (.int .i64 c.k) ∧ W.cell? ⟨p, 1, none⟩ = some (.int .i64 c.n) ∧ W.cell? ⟨p, 2, none⟩ = some (.string c.s) ∧ p < hi := by
  obtain ⟨z, ⟨c, ks, ao, cap, e, hp, _, hN, _⟩, rfl, _⟩ := h
  exact ⟨c, _, by rw [e]; rfl, hN.cells.1, hN.cells.2.1, hN.cells.2.2, hp.2⟩
theorem nodeZ_yes {x : Pg} {c : C} {r : List C} (h1 : prgB x = true) (h2 : trm (c :: r) = true) (h3 : callT (c :: r) = true) : nodeZ x (c :: r) = nodeP x.ps c.s c.n := by
  unfold nodeZ
  rw [if_pos ⟨h1, h2, h3⟩]
  rfl
theorem nodeZ_no {x : Pg} {t : List C} (h : ¬ (prgB x = true ∧ trm t = true ∧ callT t = true)) : nodeZ x t = -1 := by
  unfold nodeZ
  rw [if_neg h]

set_option maxRecDepth 100000 in
set_option maxHeartbeats 2000000 in
theorem specPrgNode_any (x : Pg) (v0 v1 : Value) (ta : Option Addr) (tc : Nat) (t : List C) (w : World) (hF : FitPg x) (hs : szPg x ≤ 1048576) (hv : PgV w x v0 v1) (hm : t.length ≤ maxLen) (hA : Row w ta t) (hT : Fit t) :
    Calls Try.prog 11 #[.agg #[v0, v1], .slice ta t.length tc] w fun e w' => e = .returned (.int .i64 (nodeZ x t)) ∧ Below w.heap.size w w' := by
  obtain ⟨a0, n0, c0, a1, n1, c1, rfl, rfl⟩ := pgV_sl hv
  obtain ⟨hb0, d0, d1⟩ := two_new w (.slice a0 n0 c0) (.slice a1 n1 c1) 33
  have HP := hide (fun (W : World) (hW : Below w.heap.size w W) => specPrgOk_any x _ _ W hF hs (hv.below hW))
  have HT := hide (fun (W : World) (hW : Below w.heap.size w W) => specTrmOk_any ta tc t W hm (hA.below hW) hT)
  have HC := hide (fun (W : World) (hW : Below w.heap.size w W) => l3Call_any ta tc t W hm (hA.below hW))
  have HN := hide (fun (W : World) (hW : Below w.heap.size w W) (c : C) (r : List C) (e : t = c :: r) (hl : t.length ≤ 40) => show ∃ tb toff, ta = some ⟨tb, toff, none⟩ ∧ Calls Try.prog 45 #[.agg #[.slice a0 n0 c0, .slice a1 n1 c1], .slice (some ⟨tb, toff, none⟩) t.length tc] W fun e w' => e = .returned (.int .i64 (nodeP x.ps c.s c.n)) ∧ Below W.heap.size W w' from by
    rcases hA with h | ⟨tb, toff, ea, hA⟩
    · rw [h] at e; cases e
    · subst e
      exact ⟨tb, toff, ea, l3Node_any x _ _ c r tb toff tc W hs (hv.below hW) (hA.below hW) hl⟩)
  have HL := hide (fun (h : trm t = true) => ((trm_iff t).1 h).2.1)
  clear hv hA hm hT hF hs
  go_enter Try.func11, Try.ntmps11
  go_wp2_with fail
  generalize w.alloc (.cells #[.slice a0 n0 c0, .slice a1 n1 c1] 33) = w0 at hb0 d0 d1 ⊢
  have hl0 : w.heap.size < w0.heap.size := World.block_lt_of_cell? w0 ⟨_, _, none⟩ d1
  refine (unhide HP w0 hb0).mono ?_
  rintro e w1 ⟨rfl, hb1⟩
  have hB1 := bstep hb0 hb1
  replace d0 := (hb1.cell (p := ⟨w.heap.size, 0, none⟩) hl0).trans d0
  replace d1 := (hb1.cell (p := ⟨w.heap.size, 1, none⟩) hl0).trans d1
  replace hl0 : w.heap.size < w1.heap.size := World.block_lt_of_cell? w1 ⟨_, _, none⟩ d1
  clear hb0 hb1 HP
  cases hp : prgB x with
  | false =>
    have HV := hide (nodeZ_no (x := x) (t := t) (fun h => by rw [hp] at h; cases h.1))
    clear hp HT HC HN HL
    go_wp2
    go_ret
    exact ⟨ret_int (by rw [unhide HV]), hB1⟩
  | true =>
    have HPT := hide hp
    have H2 := hide (unhide HT w1 hB1)
    clear hp HT
    go_wp2_with fail
    refine (unhide H2).mono ?_
    rintro e w2 ⟨rfl, hb2⟩
    have hB2 := bstep hB1 hb2
    replace d0 := (hb2.cell (p := ⟨w.heap.size, 0, none⟩) hl0).trans d0
    replace d1 := (hb2.cell (p := ⟨w.heap.size, 1, none⟩) hl0).trans d1
    replace hl0 : w.heap.size < w2.heap.size := World.block_lt_of_cell? w2 ⟨_, _, none⟩ d1
    clear H2 hB1 hb2
    cases ht : trm t with
    | false =>
      have HV := hide (nodeZ_no (x := x) (t := t) (fun h => by rw [ht] at h; cases h.2.1))
      clear ht HC HN HL HPT
      go_wp2
      go_ret
      exact ⟨ret_int (by rw [unhide HV]), hB2⟩
    | true =>
      have HTT := hide ht
      have H3 := hide (unhide HC w2 hB2)
      clear ht HC
      go_wp2_with fail
      refine (unhide H3).mono ?_
      rintro e w3 ⟨rfl, hww⟩
      subst hww
      cases hc : callT t with
      | false =>
        have HV := hide (nodeZ_no (x := x) (t := t) (fun h => by rw [hc] at h; cases h.2.2))
        clear hc HN HL HPT HTT H3
        go_wp2
        go_ret
        exact ⟨ret_int (by rw [unhide HV]), hB2⟩
      | true =>
        obtain ⟨c, r, et⟩ : ∃ c r, t = c :: r := by
          cases t with
          | nil => cases hc
          | cons c r => exact ⟨c, r, rfl⟩
        have HV : Hid (nodeZ x t = nodeP x.ps c.s c.n) := by
          show nodeZ x t = _
          have h2 := unhide HTT
          rw [et] at h2 hc ⊢
          exact nodeZ_yes (unhide HPT) h2 hc
        obtain ⟨tb, toff, rfl, hcall⟩ := unhide HN w3 hB2 c r et (unhide HL (unhide HTT))
        have H4 := hide hcall
        clear hc HN HL HPT HTT H3 et hcall
        go_wp2_with fail
        refine (unhide H4).mono ?_
        rintro e w4 ⟨rfl, hb4⟩
        have hB4 := bstep hB2 hb4
        go_wp2
        go_ret
        exact ⟨ret_int (by rw [unhide HV]), hB4⟩
end Go.Proofs.Ytpfoaleehdiahaa
