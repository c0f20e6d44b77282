/- A clause of the program that is checked. -/
import Derived.Test.YtpfoaleehdiahaaQQI1
namespace Go.Proofs.Ytpfoaleehdiahaa
open Go.RowKit Go.Shelf
set_option linter.unusedVariables false
set_option linter.unusedSimpArgs false

set_option maxRecDepth 100000 in
set_option maxHeartbeats 1000000 in
theorem mayStand_callnil (w : World) : Calls Try.prog 157 #[.iface 212 (.agg #[ptrV none])] w fun e w' => e = .returned (.bool false) ∧ Below w.heap.size w w' := by
  have h0 := nil_call
  have te := ta_call_exit
  have HGW := hide (goalWhole_call none w 0 (fun p' e => by cases e))
  simp only [List.mem_cons, List.mem_nil_iff, or_false, reduceCtorEq, decide_true, decide_false, Bool.not_false, Bool.not_true, Bool.true_and, Bool.and_false, Bool.false_and] at HGW
  go_enter Try.func157, Try.ntmps157
  go_wp2_with (go_at_call 156; refine (unhide HGW).mono ?_; rintro e w1 ⟨rfl, hb1⟩)
  go_ret
  exact ⟨rfl, hb1⟩
theorem mayStand_head {lo : Nat} {W : World} {o : Option Nat} {t : List C} (h : Lk lo W o t) :
    Calls Try.prog 157 #[.iface 212 (.agg #[ptrV o])] W fun e w' => e = .returned (.bool (l3T t && callT t)) ∧ Below W.heap.size W w' := by
  rcases h with ⟨ht, p, rfl, hT⟩ | ⟨ht, rfl⟩
  · have he : (l3T t && callT t) = (callT t && fitT t) := by rw [l3T_fit, ht, Bool.true_and, Bool.and_comm]
    rw [he]
    exact mayStand_call p t W (hT.isIn (Nat.le_refl _))
  · have he : (l3T t && callT t) = false := by rw [l3T_fit, ht]; rfl
    rw [he]
    exact mayStand_callnil W

/-- A clause of the program, while a call lasts: what it was made of. -/
structure ClM (lo : Nat) (W : World) (P : Nat) (x : Cl) (o : Option Nat) (ao : Option Addr) (cap : Nat) : Prop where
  c0 : W.cell? ⟨P, 0, none⟩ = some (ptrV o)
  c1 : W.cell? ⟨P, 1, none⟩ = some (.slice ao x.g.length cap)
  hd : Lk lo W o x.h
  bd : x.g = [] ∨ ∃ b, ao = some ⟨b, 0, none⟩ ∧ ∀ i, (h : i < x.g.length) → ∃ v lo hi, W.cell? ⟨b, i, none⟩ = some v ∧ hi ≤ W.heap.size ∧ GoF lo hi x.g[i] W v
theorem ClM.below {lo : Nat} {W W' : World} {P : Nat} {x : Cl} {o : Option Nat} {ao : Option Addr} {cap : Nat} (h : ClM lo W P x o ao cap) (hb : Below W.heap.size W W') : ClM lo W' P x o ao cap := by
  refine ⟨(hb.cell (p := ⟨P, 0, none⟩) (World.block_lt_of_cell? W _ h.c0)).trans h.c0, (hb.cell (p := ⟨P, 1, none⟩) (World.block_lt_of_cell? W _ h.c1)).trans h.c1, h.hd.below hb, ?_⟩
  rcases h.bd with h | ⟨b, e, h⟩
  · exact .inl h
  · refine .inr ⟨b, e, fun i hi => ?_⟩
    obtain ⟨v, l, r, h1, hh, h2⟩ := h i hi
    exact ⟨v, l, r, (hb.cell (p := ⟨b, i, none⟩) (World.block_lt_of_cell? W _ h1)).trans h1, Nat.le_trans hh hb.size, h2.below hh hb⟩

/-- The clause, if it may stand in a program; else nil. -/
def ckV (x : Cl) (P : Nat) : Value := if clB x = true then .pointer (some ⟨P, 0, none⟩) else .pointer none

set_option maxRecDepth 100000 in
set_option maxHeartbeats 2000000 in
theorem checked_any (lo P : Nat) (x : Cl) (o : Option Nat) (ao : Option Addr) (cap : Nat) (w : World) (hg : x.g.length ≤ 4) (h : ClM lo w P x o ao cap) :
    Calls Try.prog 140 #[.pointer (some ⟨P, 0, none⟩)] w fun e w' => e = .returned (ckV x P) ∧ Below w.heap.size w w' := by
  have HE : Hid (clB x = ((l3T x.h && callT x.h) && x.g.all (fun g => goalB g.k g.a g.b g.c))) := by show _ = _; simp [clB, hg]
  have HH := hide (mayStand_head h.hd)
  have hc0 := h.c0
  have hc1 := h.c1
  have HCM := hide h
  clear h
  obtain ⟨a, ea⟩ : ∃ a, a = (l3T x.h && callT x.h) := ⟨_, rfl⟩
  rw [← ea] at HH HE
  clear ea
  unfold ptrV at hc0 HH
  cases a with
  | false =>
    go_enter Try.func140, Try.ntmps140
    go_wp2_with (go_at_call 157; refine (unhide HH).mono ?_; rintro e w1 ⟨rfl, hb1⟩)
    go_ret
    exact ⟨by unfold ckV; rw [unhide HE]; rfl, hb1⟩
  | true =>
    have hP : P < w.heap.size := World.block_lt_of_cell? w ⟨_, _, none⟩ hc1
    go_enter Try.func140, Try.ntmps140
    go_wp2_with (go_at_call 157; refine (unhide HH).mono ?_; rintro e w1 ⟨rfl, hb1⟩; have d1 := (hb1.cell (p := ⟨P, 1, none⟩) hP).trans hc1)
    have HC1 := hide ((unhide HCM).below hb1)
    clear HCM hc0 hc1 HH
    go_loopw [18] (fun i wr => ∃ (k : Nat), k ≤ x.g.length ∧ i = .int .i64 k ∧ GoodUp x.g k ∧ Below w1.heap.size w1 wr) (fun i _ => x.g.length - (intOf i).toNat)
    case atStart => exact ⟨0, Nat.zero_le _, rfl, fun j _ h => absurd h (Nat.not_lt_zero _), Below.refl _ _⟩
    case round =>
      obtain ⟨k, hk, rfl, hgu, hBr⟩ := hrel
      have HGU := hide hgu
      clear hgu
      have hBw := bstep hb1 hBr
      by_cases hlt : k < x.g.length
      · have hC := (unhide HC1).below hBr
        rcases hC.bd with e | ⟨b, e, hb⟩
        · rw [e] at hlt; simp at hlt
        subst e
        obtain ⟨v, l, r, m0, hhi, hG⟩ := hb k hlt
        have HM := hide (mayStand_gof hhi hG)
        have HNO := hide (goodUp_no hlt)
        have HSU := hide (goodUp_succ (unhide HGU) hlt)
        clear hb hC
        cases hgo : goalB x.g[k].k x.g[k].a x.g[k].b x.g[k].c with
        | false =>
          rw [hgo] at HM
          have HN := hide (unhide HNO hgo)
          clear HNO HSU hgo
          rcases hG.one with ⟨T, u, rfl⟩ | rfl
          · clear hG
            go_wp2_with (go_at_call 157; refine (unhide HM).mono ?_; rintro e w3 ⟨rfl, hb3⟩)
            go_ret
            exact ⟨by unfold ckV; rw [unhide HE, unhide HN]; rfl, bstep hBw hb3⟩
          · clear hG
            go_wp2_with (go_at_call 157; refine (unhide HM).mono ?_; rintro e w3 ⟨rfl, hb3⟩)
            go_ret
            exact ⟨by unfold ckV; rw [unhide HE, unhide HN]; rfl, bstep hBw hb3⟩
        | true =>
          rw [hgo] at HM
          have HS := hide (unhide HSU hgo)
          clear HNO HSU hgo
          rcases hG.one with ⟨T, u, rfl⟩ | rfl
          · clear hG
            go_wp2_with (go_at_call 157; refine (unhide HM).mono ?_; rintro e w3 ⟨rfl, hb3⟩)
            go_roundw
            case rel => exact ⟨k + 1, by omega, by go_num, unhide HS, bstep hBr hb3⟩
            case measure => simp [intOf]; omega
          · clear hG
            go_wp2_with (go_at_call 157; refine (unhide HM).mono ?_; rintro e w3 ⟨rfl, hb3⟩)
            go_roundw
            case rel => exact ⟨k + 1, by omega, by go_num, unhide HS, bstep hBr hb3⟩
            case measure => simp [intOf]; omega
      · have e : k = x.g.length := by omega
        subst e
        go_wp2
        go_ret
        exact ⟨by unfold ckV; rw [unhide HE, goodUp_all (unhide HGU)]; rfl, hBw⟩
end Go.Proofs.Ytpfoaleehdiahaa
