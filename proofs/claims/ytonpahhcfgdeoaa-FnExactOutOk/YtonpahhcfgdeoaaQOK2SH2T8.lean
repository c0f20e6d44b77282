import Derived.Test.YtonpahhcfgdeoaaQG1W16OK1
import Derived.Test.YtonpahhcfgdeoaaQPlain3Plain6
import Derived.Test.YtonpahhcfgdeoaaQW13SB1
import Derived.Deep.RegionHeld3
import Derived.Deep.QuietTactic
import Derived.BigQuiet
import Derived.Test.YtonpahhcfgdeoaaQSH0SH1
import Derived.Test.YtonpahhcfgdeoaaQW7W18T5BR1BG1
import Derived.Test.YtonpahhcfgdeoaaQW15
/- The program's OutOk. -/
namespace Go.Proofs.Ytonpahhcfgdeoaa
open Go.RowKit Go.Shelf
set_option linter.unusedVariables false
set_option linter.unusedSimpArgs false

theorem below_dN {B : Nat} {a w : World} (h : Below B a w) (n : Nat) : Below B a (w.drewN n) := ⟨h.os, h.tape, h.output, h.size, h.block⟩
theorem isQ_parts {t : List C} (h : isQ t = true) : trm t = true ∧ callT t = true ∧ canonOf t = t := by
  unfold isQ at h
  simp only [Bool.and_eq_true] at h
  exact ⟨h.1.1, h.1.2, (sameS_iff _ _).1 h.2⟩
theorem isQ_var {t : List C} (h : canonOf t = t) (hl : t.length ≤ 40) : ∀ c ∈ t, c.k = 1 → c.n ≤ 40 := by
  intro d hd hk
  rw [← h] at hd
  obtain ⟨c, hc, rfl⟩ := List.mem_map.1 hd
  by_cases h1 : c.k = 1
  · rw [canonC_var h1]
    have hp := placeV_in (freeOf_nodup t) (vars_in t c hc h1)
    have hl := freeOf_len t
    show placeV (freeOf t) c.n ≤ 40
    omega
  · rw [canonC_other h1] at hk; exact absurd hk h1
theorem trm_shiftQ {t : List C} (h : isQ t = true) {n : Nat} (hn : n ≤ 40) : trm (t.map (shiftC n)) = true := by
  obtain ⟨h1, _, h3⟩ := isQ_parts h
  have h0 := (trm_iff t).1 h1
  have hv := isQ_var h3 h0.2.1
  refine (trm_iff _).2 ⟨by rw [List.length_map]; exact h0.1, by rw [List.length_map]; exact h0.2.1, fun d hd => ?_, ?_⟩
  · obtain ⟨c, hc, rfl⟩ := List.mem_map.1 hd
    have ho := h0.2.2.1 c hc
    by_cases h1 : c.k = 1
    · have hr := (okC1 h1).1 ho
      have := hv c hc h1
      have e : shiftC (n : Int) c = ⟨c.k, c.n + n, c.s⟩ := by simp [shiftC, h1]
      rw [e]
      exact (okC1 (c := ⟨c.k, c.n + n, c.s⟩) h1).2 ⟨by show 0 ≤ c.n + (n : Int); omega, by show c.n + (n : Int) ≤ 99999; omega, hr.2.2⟩
    · have e : shiftC (n : Int) c = c := by simp [shiftC, h1]
      rw [e]; exact ho
  · rw [List.length_map, ends_map (fun c => by unfold shiftC ari; split <;> simp_all)]
    exact h0.2.2.2

/-- Whether a question and a term can be the same. -/
def CanB (t u : List C) (r : Bool) : Prop := isQ t = true → trm u = true → ∃ n res sf, Uni n [] [(t.map (shiftC u.length), u)] res sf ∧ r = res.isSome
theorem canB_all (t u : List C) : ∃ r, CanB t u r := by
  by_cases h : isQ t = true ∧ trm u = true
  · have hu := (trm_len h.2).2
    obtain ⟨n, res, sf, hU⟩ := uni_all (s := []) (ps := [(t.map (shiftC u.length), u)]) okB_nil (fun p hp => by simp at hp; subst hp; exact ⟨trm_Trm (trm_shiftQ h.1 hu), trm_Trm h.2⟩)
    exact ⟨res.isSome, fun _ _ => ⟨n, res, sf, hU, rfl⟩⟩
  · exact ⟨false, fun h1 h2 => absurd ⟨h1, h2⟩ h⟩
/-- An outcome may be one of a question. -/
def outB (k : Int) (t u : List C) (r : Bool) : Bool := isQ t && (if k = 3 ∨ k = 4 ∨ k = 5 then decide (u.length = 0) else decide (k = 2) && trm u && sameS (canonOf u) u && r)

/-- An outcome, in memory. -/
structure OutM (w : World) (ao : Option Addr) (cap : Nat) (u : List C) : Prop where
  row : Row w ao u
  fit : Fit u
  wf : WfC u
  len : u.length ≤ 1048576
  cap1 : u.length ≤ cap
  cap2 : cap ≤ maxLen
theorem OutM.below {w w' : World} {ao : Option Addr} {cap : Nat} {u : List C} (h : OutM w ao cap u) (hb : Below w.heap.size w w') : OutM w' ao cap u := ⟨h.row.below hb, h.fit, h.wf, h.len, h.cap1, h.cap2⟩

set_option maxRecDepth 100000 in
set_option maxHeartbeats 400000 in
theorem hasEnded_any (k : Int) (w : World) : Calls Try.prog 66 #[.int .i64 k] w fun e w' => e = .returned (.bool (decide (k = 3 ∨ k = 4 ∨ k = 5))) ∧ w' = w := by
  by_cases h3 : k = 3
  · subst h3
    go_enter Try.func66, Try.ntmps66
    go_wp2
    go_ret
    exact ⟨by simp, rfl⟩
  by_cases h4 : k = 4
  · subst h4
    go_enter Try.func66, Try.ntmps66
    go_wp2
    go_ret
    exact ⟨by simp, rfl⟩
  by_cases h5 : k = 5
  · subst h5
    go_enter Try.func66, Try.ntmps66
    go_wp2
    go_ret
    exact ⟨by simp, rfl⟩
  go_enter Try.func66, Try.ntmps66
  go_wp2
  go_ret
  exact ⟨by simp [h3, h4, h5], rfl⟩

set_option maxRecDepth 100000 in
set_option maxHeartbeats 4000000 in
/-- An outcome that may be one of a question, which is told by its tree. -/
theorem mayCome_any (k : Int) (lo p : Nat) (uo : Option Addr) (ucap : Nat) (t u : List C) (r : Bool) (w : World) (hP : TreF lo w.heap.size w p t) (hU : OutM w uo ucap u) (hq : isQ t = true) (hr : CanB t u r) :
    Calls Try.prog 41 #[.pointer (some ⟨p, 0, none⟩), .agg #[.int .i64 k, .slice uo u.length ucap]] w fun e w' => e = .returned (.bool (outB k t u r)) ∧ Below w.heap.size w w' := by
  have hb0 := cell_below w (.cells #[.int .i64 k, .slice uo u.length ucap] 31)
  have d0 : (w.alloc (.cells #[.int .i64 k, .slice uo u.length ucap] 31)).cell? ⟨w.heap.size, 0, none⟩ = some (.int .i64 k) := by
    have hb := World.alloc_heap_new w (.cells #[.int .i64 k, .slice uo u.length ucap] 31)
    simp only [World.cell?]; rw [hb]; rfl
  have d1 : (w.alloc (.cells #[.int .i64 k, .slice uo u.length ucap] 31)).cell? ⟨w.heap.size, 1, none⟩ = some (.slice uo u.length ucap) := by
    have hb := World.alloc_heap_new w (.cells #[.int .i64 k, .slice uo u.length ucap] 31)
    simp only [World.cell?]; rw [hb]; rfl
  have hul := hU.len
  have HPP := hide hP
  have HTN := hide (fun (hn : trm u = false) (W : World) (hW : Below w.heap.size w W) => treeOf_no uo ucap u W (Nat.le_trans hU.cap1 hU.cap2) (hU.below hW).row hU.fit hn)
  have HTY := hide (fun (hy : trm u = true) (W : World) (hW : Below w.heap.size w W) => treeOf_yes 0 uo ucap u W hU.cap1 hU.cap2 (Nat.zero_le _) (hU.below hW).row hU.fit hy)
  have HC := hide (fun (W : World) (hW : Below w.heap.size w W) => TrmCanon_any uo ucap u W hU.len (hU.below hW).row hU.wf)
  have HS := hide (fun (W0 W : World) (hW : Below w.heap.size w W) (xa : Option Addr) (xc : Nat) (ho : OwnC W W0.heap.size (.slice xa (canonOf u).length xc) (canonOf u)) => TrmSame_any xa uo xc ucap (canonOf u) u W (by rw [canonOf_length]; exact by have := hU.len; unfold maxLen; omega) ho.row (hU.below hW).row)
  have HR := hide hr
  clear hP hU hr
  have HHE := hide (hasEnded_any k (w.alloc (.cells #[.int .i64 k, .slice uo u.length ucap] 31)))
  go_enter Try.func41, Try.ntmps41
  go_wp2_with fail
  generalize w.alloc (.cells #[.int .i64 k, .slice uo u.length ucap] 31) = w1 at hb0 d0 d1 HHE ⊢
  have hl0 : w.heap.size < w1.heap.size := World.block_lt_of_cell? w1 ⟨_, _, none⟩ d1
  have hlo : w.heap.size ≤ w1.heap.size := Nat.le_of_lt hl0
  have hl00 : w.heap.size < w1.heap.size := hl0
  have hB1 := hb0
  by_cases hk : k = 3 ∨ k = 4 ∨ k = 5
  · have ho : outB k t u r = decide (u.length = 0) := by simp [outB, hq, hk]
    have hd : decide (k = 3 ∨ k = 4 ∨ k = 5) = true := by simp [hk]
    rw [hd] at HHE
    have HO := hide ho
    clear HTN HTY HC HS HPP HR ho hd hk
    go_wp2_with (go_at_call 66; refine (unhide HHE).mono ?_; rintro e w2 ⟨rfl, rfl⟩)
    go_ret
    exact ⟨by rw [unhide HO]; congr 2; cases u <;> simp <;> omega, hB1⟩
  have hd : decide (k = 3 ∨ k = 4 ∨ k = 5) = false := by simp [hk]
  rw [hd] at HHE
  have HOB : Hid (outB k t u r = (decide (k = 2) && trm u && sameS (canonOf u) u && r)) := by show _ = _; simp [outB, hq, hk]
  clear hd
  have HK := hide hk
  clear hk
  cases hy : trm u with
  | false =>
    have ho : outB k t u r = false := by rw [unhide HOB, hy]; simp
    have HO := hide ho
    have H := hide (unhide HTN hy w1 hB1)
    clear HTN HTY HC HS HPP HR ho HOB
    by_cases k2 : k = 2
    · subst k2
      go_wp2_with (first
        | (go_at_call 66; refine (unhide HHE).mono ?_; rintro e w2 ⟨rfl, rfl⟩; clear HHE)
        | (go_at_call 63; refine (unhide H).mono ?_; rintro e w3 ⟨rfl, hb3⟩; clear H; have e0 := (hb3.cell (p := ⟨w.heap.size, 0, none⟩) hl0).trans d0; have e1 := (hb3.cell (p := ⟨w.heap.size, 1, none⟩) hl0).trans d1))
      go_quiet (fail)
      go_wp2
      go_ret
      exact ⟨by rw [unhide HO]; rfl, below_dN (bstep hB1 hb3) _⟩
    · have hne : (k != 2) = true := by simp [k2]
      go_wp2_with (first
        | (go_at_call 66; refine (unhide HHE).mono ?_; rintro e w2 ⟨rfl, rfl⟩; clear HHE)
        | (go_at_call 63; refine (unhide H).mono ?_; rintro e w3 ⟨rfl, hb3⟩; clear H; have e0 := (hb3.cell (p := ⟨w.heap.size, 0, none⟩) hl0).trans d0; have e1 := (hb3.cell (p := ⟨w.heap.size, 1, none⟩) hl0).trans d1))
      go_quiet (fail)
      go_wp2
      go_ret
      exact ⟨by rw [unhide HO]; rfl, below_dN (bstep hB1 hb3) _⟩
  | true =>
    have H := hide (unhide HTY hy w1 hB1)
    clear HTN HTY
    by_cases k2 : k = 2
    · subst k2
      have ho : outB 2 t u r = (sameS (canonOf u) u && r) := by rw [unhide HOB, hy]; simp
      obtain ⟨Q, hQ⟩ : ∃ Q, Q = sameS (canonOf u) u := ⟨_, rfl⟩
      rw [← hQ] at ho HS
      have HO := hide ho
      have hul40 := (trm_len hy).2
      have HL := hide hul40
      clear ho HOB hQ hul40 hul
      go_wp2_with (first
        | (go_at_call 66; refine (unhide HHE).mono ?_; rintro e w2 ⟨rfl, rfl⟩; clear HHE)
        | (go_at_call 63; refine (unhide H).mono ?_; rintro e w3 ⟨q, z, rfl, hz, hnd, hTre, hb3⟩; clear H; have e0 := (hb3.cell (p := ⟨w.heap.size, 0, none⟩) hl0).trans d0; have e1 := (hb3.cell (p := ⟨w.heap.size, 1, none⟩) hl0).trans d1))
      have hlw : w2.heap.size ≤ w3.heap.size := hb3.size
      have hB3 := bstep hB1 hb3
      have hlo3 : w2.heap.size ≤ w3.heap.size := hlw
      have hl3 : w.heap.size < w3.heap.size := by omega
      have hqF : TreF w2.heap.size w3.heap.size w3 q u := ⟨z, (tre_up hTre (unhide HL)).kept (fun b h => ⟨by omega, h.2⟩) (fun _ _ => rfl), hz⟩
      have hpF : TreF lo w3.heap.size w3 p t := (unhide HPP).below hB3
      have HQF := hide hqF
      have HPF := hide hpF
      clear hqF hpF hTre hz hnd hb3 HPP hlw d0 d1 hl0
      have HC3 := hide (fun (W : World) (hW : Below w.heap.size w W) => unhide HC W hW)
      clear HC
      have hB3d := hB3.drew
      go_region_held3 (fun w' => w'.cell? ⟨w.heap.size, 0, none⟩ = some (.int .i64 2) ∧ w'.cell? ⟨w.heap.size, 1, none⟩ = some (.slice uo u.length ucap)) (first | (refine ⟨?_, ?_⟩ <;> assumption) | go_keep) (first
        | (go_at_call 64; have hx := hb4; refine (unhide HS w3 w4 hB4 xa xc ho4).mono ?_; rintro e w5 ⟨rfl, hb5⟩; have i0 := (hb5.cell (p := ⟨w.heap.size, 0, none⟩) hl4).trans f0; have i1 := (hb5.cell (p := ⟨w.heap.size, 1, none⟩) hl4).trans f1)
        | (go_at_call 65; refine (unhide HC3 w3.drew hB3d).mono ?_; rintro e w4 ⟨v, rfl, ho4, hb4⟩; obtain ⟨xa, xc, rfl, _⟩ := ho4.shape; have f0 := (hb4.cell (p := ⟨w.heap.size, 0, none⟩) hl3).trans e0; have f1 := (hb4.cell (p := ⟨w.heap.size, 1, none⟩) hl3).trans e1; have hl4 : w.heap.size < w4.heap.size := World.block_lt_of_cell? w4 ⟨_, _, none⟩ f1; have hB4 := bstep hB3d hb4))
      cases Q with
      | false =>
        go_wp2
        go_ret
        exact ⟨by rw [unhide HO]; rfl, bstep hB4 hb5⟩
      | true =>
        have hlw : w3.heap.size ≤ w5.heap.size := Nat.le_trans hb4.size hb5.size
        have hB5 := bstep hB4 hb5
        have h35 : Below w3.heap.size w3 w5 := bstep (bstep (Below.refl _ _).drew hb4) hb5
        have HQ5 := hide ((unhide HQF).below h35)
        have HP5 := hide ((unhide HPF).below h35)
        have HRR := hide (unhide HR hq hy)
        have HQT := hide hq
        have HYT := hide hy
        have hl5 : w.heap.size < w5.heap.size := by omega
        have hlo5 : w2.heap.size ≤ w5.heap.size := Nat.le_trans hlo3 hlw
        clear HQF HPF HR h35 HS HC3 hq hy e0 e1 f0 f1
        go_wp2
        have hB5d := hB5.drew
        have hok : Hid (∀ c ∈ t, okC c = true) := ((trm_iff t).1 (isQ_parts (unhide HQT)).1).2.2.1
        obtain ⟨n, res, sf, hU, hr⟩ := unhide HRR
        have HU := hide hU
        have HRE := hide hr
        clear hU hr HRR
        go_region_held3 (fun w' => w'.cell? ⟨w.heap.size, 0, none⟩ = some (.int .i64 2) ∧ w'.cell? ⟨w.heap.size, 1, none⟩ = some (.slice uo u.length ucap)) (first | (refine ⟨?_, ?_⟩ <;> assumption) | go_keep) (first
          | (go_at_call 68; have hx := hb7; refine (makeSame_rdy (lo := w2.heap.size) hlo7 hrd (trm_Trm (trm_shiftQ (unhide HQT) (unhide HL))) (trm_Trm (unhide HYT)) hls (unhide HL) (unhide HU)).mono ?_; rintro e w8 ⟨rfl, hb8⟩; have m0 := (hb8.cell (p := ⟨w.heap.size, 0, none⟩) hl00).trans j0; have m1 := (hb8.cell (p := ⟨w.heap.size, 1, none⟩) hl00).trans j1)
          | (go_at_call 69; have hx := hb6; refine (shifted_tree u.length (unhide HL) hp6 (unhide hok)).mono ?_; rintro e w7 ⟨q7, rfl, hF7, hb7⟩; have j0 := (hb7.cell (p := ⟨w.heap.size, 0, none⟩) hl6).trans k0; have j1 := (hb7.cell (p := ⟨w.heap.size, 1, none⟩) hl6).trans k1; have hrd := rdyA (lo := w2.heap.size) (W := w5.drew) (by simp only [World.drew]; omega) HQ5d hS6 hb6 hF7 hb7; have hlo7 : w2.heap.size ≤ w7.heap.size := Nat.le_trans hlo6 hb7.size; have hls : (t.map (shiftC (u.length : Int))).length ≤ 40 := (trm_len (trm_shiftQ (unhide HQT) (unhide HL))).2)
          | (go_at_call 67; refine (bindingsOf_nil w5.drew).mono ?_; rintro e w6 ⟨P, rfl, hS6, hb6⟩; have k0 := (hb6.cell (p := ⟨w.heap.size, 0, none⟩) hl5).trans i0; have k1 := (hb6.cell (p := ⟨w.heap.size, 1, none⟩) hl5).trans i1; have hl6 : w.heap.size < w6.heap.size := World.block_lt_of_cell? w6 ⟨_, _, none⟩ k1; have hlo6 : w2.heap.size ≤ w6.heap.size := Nat.le_trans hlo5 hb6.size; have HQ5d : TreF w2.heap.size w5.drew.heap.size w5.drew q u := (unhide HQ5).below (Below.refl _ _).drew; have hp6 := ((unhide HP5).below (Below.refl _ _).drew).below hb6))
        go_wp2
        go_ret
        exact ⟨by rw [unhide HO, unhide HRE]; rfl, (bstep (bstep hB5d hb6) hb7).trans (hb8.mono hlo)⟩
    · have hne : (k != 2) = true := by simp [k2]
      have ho : outB k t u r = false := by rw [unhide HOB]; simp [k2]
      have HO := hide ho
      clear HOB ho
      go_wp2_with (first
        | (go_at_call 66; refine (unhide HHE).mono ?_; rintro e w2 ⟨rfl, rfl⟩; clear HHE)
        | (go_at_call 63; refine (unhide H).mono ?_; rintro e w3 ⟨q, z, rfl, hz, hnd, hTre, hb3⟩; clear H; have e0 := (hb3.cell (p := ⟨w.heap.size, 0, none⟩) hl0).trans d0; have e1 := (hb3.cell (p := ⟨w.heap.size, 1, none⟩) hl0).trans d1))
      go_quiet (fail)
      go_wp2
      go_ret
      exact ⟨by rw [unhide HO]; rfl, below_dN (bstep hB1 hb3) _⟩

set_option maxRecDepth 100000 in
set_option maxHeartbeats 1000000 in
theorem implOutOk_any (k : Int) (ao uo : Option Addr) (cap ucap : Nat) (t u : List C) (r : Bool) (w : World) (hT : OutM w ao cap t) (hU : OutM w uo ucap u) (hr : CanB t u r) :
    Calls Try.prog 12 #[.slice ao t.length cap, .agg #[.int .i64 k, .slice uo u.length ucap]] w fun e w' => e = .returned (.bool (outB k t u r)) ∧ Below w.heap.size w w' := by
  obtain ⟨w0, hw0⟩ : ∃ w0, w0 = w.alloc (.cells #[.int .i64 k, .slice uo u.length ucap] 31) := ⟨_, rfl⟩
  have hb0 : Below w.heap.size w w0 := by rw [hw0]; exact cell_below _ _
  have hX : w0.heap[w.heap.size]? = some (.cells #[.int .i64 k, .slice uo u.length ucap] 31 (0, 0)) := by rw [hw0]; exact World.alloc_heap_new w _
  have hT0 := hT.below hb0
  have HQ := hide (questionOf_any ao cap t w0 hT0.cap1 hT0.cap2 hT0.len hT0.row hT0.fit hT0.wf)
  have HM := hide (fun (lo p : Nat) (W : World) (hW : Below w.heap.size w W) (hq : isQ t = true) (hP : TreF lo W.heap.size W p t) => mayCome_any k lo p uo ucap t u r W hP (hU.below hW) hq hr)
  clear hT hU hT0 hr
  go_enter Try.func12, Try.ntmps12
  go_wp2_with fail
  rw [← hw0]
  clear hw0
  refine (unhide HQ).mono ?_
  rintro e w1 ⟨hq, hb1⟩
  have hB1 := bstep hb0 hb1
  have hX1 := (hb1.block w.heap.size (Array.getElem?_eq_some_iff.1 hX).1).trans hX
  have d0 : w1.cell? ⟨w.heap.size, 0, none⟩ = some (.int .i64 k) := by simp only [World.cell?]; rw [hX1]; rfl
  have d1 : w1.cell? ⟨w.heap.size, 1, none⟩ = some (.slice uo u.length ucap) := by simp only [World.cell?]; rw [hX1]; rfl
  clear HQ hX hX1 hb0 hb1
  rcases hq with ⟨hq, rfl⟩ | ⟨hq, p, rfl, hTF⟩
  · have ho : outB k t u r = false := by simp [outB, hq]
    have HO := hide ho
    clear HM ho
    go_wp2
    go_ret
    exact ⟨by rw [unhide HO]; rfl, hB1⟩
  · have HM1 := hide (unhide HM _ p w1 hB1 hq hTF)
    clear HM hTF hq
    obtain ⟨o, ho⟩ : ∃ o, o = outB k t u r := ⟨_, rfl⟩
    rw [← ho] at HM1
    have HO := hide ho
    clear ho
    go_wp2_with fail
    refine (unhide HM1).mono ?_
    rintro e w2 ⟨rfl, hb2⟩
    go_wp2
    go_ret
    exact ⟨by rw [unhide HO]; rfl, bstep hB1 hb2⟩
end Go.Proofs.Ytonpahhcfgdeoaa

/- The walk of TrmShift. -/
namespace Go.Proofs.Ytonpahhcfgdeoaa
open Go.RowKit Go.Shelf
set_option linter.unusedVariables false
set_option linter.unusedSimpArgs false

end Go.Proofs.Ytonpahhcfgdeoaa

/- The walk of the model's TrmShift. -/
namespace Go.Proofs.Ytonpahhcfgdeoaa
open Go.RowKit
set_option linter.unusedVariables false
set_option linter.unusedSimpArgs false

theorem shift_step {t : List C} {k : Nat} (n : Int) (h : k < t.length) : (t.take (k + 1)).map (shiftC n) = (t.take k).map (shiftC n) ++ [shiftC n t[k]] := by
  rw [List.take_succ_eq_append_getElem h, List.map_append]; rfl

theorem shiftC_var {n : Int} {c : C} (h : c.k = 1) : shiftC n c = ⟨c.k, c.n + n, c.s⟩ := by simp [shiftC, h]
theorem shiftC_other {n : Int} {c : C} (h : c.k ≠ 1) : shiftC n c = c := by simp [shiftC, h]

set_option maxHeartbeats 2000000 in
theorem l1Shift_some (b off cap : Nat) (t : List C) (n : Int) (w : World) (hm : t.length ≤ 1048576) (hA : At w b off t) (hok : ∀ c ∈ t, okC c = true) (h0 : 0 ≤ n) (h1 : n ≤ 99999) :
    Calls Try.prog 38 #[.slice (some ⟨b, off, none⟩) t.length cap, .int .i64 n] w fun e w' => ∃ v, e = .returned v ∧ OwnC w' w.heap.size v (t.map (shiftC n)) ∧ Below w.heap.size w w' := by
  obtain ⟨i0, hi, hz0, hz1, hz2⟩ := info_parts Try.infoCell
  have HOK := hide hok
  clear hok
  go_enter Try.func38, Try.ntmps38
  go_wp2
  go_loopw [5, 6] (fun o i wr => ∃ (k : Nat), k ≤ t.length ∧ i = .int .i64 k ∧ OwnC wr w.heap.size o ((t.take k).map (shiftC n)) ∧ Below w.heap.size w wr) (fun _ i _ => t.length - (intOf i).toNat)
  case atStart =>
    refine ⟨0, Nat.zero_le _, rfl, ?_, cell_below _ _⟩
    exact World.ownsRow_made w #[] 0 (Nat.le_refl _) (by simp [maxLen]) rfl
  case round =>
    obtain ⟨k, hk, rfl, hown, hB⟩ := hrel
    by_cases hlt : k < t.length
    · obtain ⟨c0, c1, c2⟩ := (hA.below hB) k hlt
      have HS := hide (shift_step n hlt)
      have hokc := unhide HOK _ (List.getElem_mem hlt)
      obtain ⟨c, hc⟩ : ∃ c, c = t[k] := ⟨_, rfl⟩
      rw [← hc] at c0 c1 c2 HS hokc
      clear hc
      have hyl : ((t.take k).map (shiftC n)).length ≤ 1048576 := by simp; omega
      obtain ⟨y, hy⟩ : ∃ y, y = (t.take k).map (shiftC n) := ⟨_, rfl⟩
      rw [← hy] at hown HS hyl
      clear hy
      obtain ⟨ao, cp, rfl, _⟩ := hown.shape
      by_cases hk1 : c.k = 1
      · have hb : (c.k == 1) = true := by simpa using hk1
        have HK := hide (shiftC_var (n := n) hk1)
        have hrg := (okC1 hk1).1 hokc
        have hr0 := hrg.1
        have hr1 := hrg.2.1
        clear hk1 hokc hrg
        go_wp2_with (at_builtin; refine wpList_append_own _ rfl _ _ 28 rfl w.heap.size 67 i0 _ 3 32 Try.underlying28 hi hz0 hz1 hz2 rfl (by decide) _ _ _ rfl (World.ownsRow.alloc (World.ownsRow.alloc hown _) _) ⟨wr.heap.size + 1, 0, none⟩ 1 1 [.int .i64 c.k, .int .i64 (c.n + n), .string c.s] rfl rfl ?c1 ?c2 ?c3 ?c4 ?c5 ?_)
        case c1 =>
          intro j u hj
          have := cell_three_new (wr.alloc (.cells #[.int .i64 c.k, .int .i64 (c.n + n), .string c.s] 67)) _ _ _ 67 j u hj
          rw [World.size_alloc] at this
          exact this
        case c2 => intro u hu; simp at hu; rcases hu with rfl | rfl | rfl <;> rfl
        case c3 => unfold maxLen; omega
        case c4 => omega
        case c5 => have := hB.size; simp; omega
        · intro v' w2 hown' hgrow _
          have R := app_cell (c := ⟨c.k, c.n + n, c.s⟩) (hB.alloc hB.size _) (Nat.le_refl _) (World.ownsRow.alloc hown _) hown' hgrow
          clear hown' hgrow hown c0 c1 c2
          go_wp2
          go_roundw
          case rel => exact ⟨k + 1, by omega, by go_num, by rw [unhide HS, unhide HK]; exact R.1, R.2⟩
          case measure => simp [intOf]; omega
      · have hb : (c.k == 1) = false := by simpa using hk1
        have HK := hide (shiftC_other (n := n) hk1)
        clear hk1 hokc
        go_wp2_with (at_builtin; refine wpList_append_own _ rfl _ _ 28 rfl w.heap.size 67 i0 _ 3 32 Try.underlying28 hi hz0 hz1 hz2 rfl (by decide) _ _ _ rfl (World.ownsRow.alloc (World.ownsRow.alloc hown _) _) ⟨wr.heap.size + 1, 0, none⟩ 1 1 [.int .i64 c.k, .int .i64 c.n, .string c.s] rfl rfl ?d1 ?d2 ?d3 ?d4 ?d5 ?_)
        case d1 =>
          intro j u hj
          have := cell_three_new (wr.alloc (.cells #[.int .i64 c.k, .int .i64 c.n, .string c.s] 67)) _ _ _ 67 j u hj
          rw [World.size_alloc] at this
          exact this
        case d2 => intro u hu; simp at hu; rcases hu with rfl | rfl | rfl <;> rfl
        case d3 => unfold maxLen; omega
        case d4 => omega
        case d5 => have := hB.size; simp; omega
        · intro v' w2 hown' hgrow _
          have R := app_cell (c := c) (hB.alloc hB.size _) (Nat.le_refl _) (World.ownsRow.alloc hown _) hown' hgrow
          clear hown' hgrow hown c0 c1 c2
          go_wp2
          go_roundw
          case rel => exact ⟨k + 1, by omega, by go_num, by rw [unhide HS, unhide HK]; exact R.1, R.2⟩
          case measure => simp [intOf]; omega
    · rw [List.take_of_length_le (by omega)] at hown
      go_wp2
      go_ret
      exact ⟨_, rfl, hown, hB⟩

theorem made_nil {w w1 : World} (hb1 : Below w.heap.size w w1) : OwnC (w1.alloc (.cells #[] 67)) w.heap.size (.slice (some ⟨w1.heap.size, 0, none⟩) 0 0) [] :=
  OwnC.base (World.ownsRow_made w1 #[] 0 (Nat.le_refl _) (by simp [maxLen]) rfl) hb1.size

theorem fit_shift {t : List C} {n : Int} (h : Fit t) : Fit (t.map (shiftC n)) := fun c hc => by
  obtain ⟨c', hc', rfl⟩ := List.mem_map.1 hc
  have := h c' hc'
  unfold shiftC; split <;> exact this

end Go.Proofs.Ytonpahhcfgdeoaa
