import Derived.Test.YtkedckmpjedjoaaQQI10
import Derived.Test.YtkedckmpjedjoaaQQP5QP6
import Derived.Test.YtkedckmpjedjoaaQQP4
import Derived.Test.YtkedckmpjedjoaaQQP3
import Derived.Test.YtkedckmpjedjoaaQQP1QP2
import Derived.Deep.RegionHeld3
import Derived.Test.YtkedckmpjedjoaaQW15W16W2
import Derived.Test.YtkedckmpjedjoaaQW7Plain2G1
import Derived.Test.YtkedckmpjedjoaaQW18GI6GI6call
import Derived.Test.YtkedckmpjedjoaaQGI7PB1SB1
/- PrgOk of the program; the walk of FnExactPrgOk. -/
namespace Go.Proofs.Ytkedckmpjedjoaa
open Go.RowKit Go.Shelf
set_option linter.unusedVariables false
set_option linter.unusedSimpArgs false

theorem pgV_sl {w : World} {x : Pg} {v0 v1 : Value} (h : PgV w x v0 v1) : ∃ a0 n0 c0 a1 n1 c1, v0 = .slice a0 n0 c0 ∧ v1 = .slice a1 n1 c1 := by
  obtain ⟨⟨p1, p2, p3, _⟩, ⟨q1, q2, q3, _⟩⟩ := h
  exact ⟨_, _, _, _, _, _, p3, q3⟩

end Go.Proofs.Ytkedckmpjedjoaa

/- What may be asked: both. -/
namespace Go.Proofs.Ytkedckmpjedjoaa
open Go.RowKit Go.Shelf
set_option linter.unusedVariables false
set_option linter.unusedSimpArgs false

/-- A question: a call whose variables are numbered as they come. -/
def topB (t : List C) : Bool := trm t && callT t && sameS (canonOf t) t

set_option maxRecDepth 100000 in
set_option maxHeartbeats 1000000 in
theorem l4Top_any (ao : Option Addr) (cap : Nat) (t : List C) (w : World) (hm : t.length ≤ maxLen) (hA : Row w ao t) (hF : Fit t) :
    Calls Try.prog 56 #[.slice ao t.length cap] w fun e w' => e = .returned (.bool (topB t)) ∧ Below w.heap.size w w' := by
  have H1 := hide (specTrmOk_any ao cap t w hm hA hF)
  have HC := hide (fun (W : World) (hW : Below w.heap.size w W) => l3Call_any ao cap t W hm (hA.below hW))
  cases hy : trm t with
  | false =>
    have HT := hide (show topB t = false by unfold topB; rw [hy]; rfl)
    rw [hy] at H1
    clear hy HC hA hF
    go_enter Try.func56, Try.ntmps56
    go_wp2_with fail
    refine (unhide H1).mono ?_
    rintro e w1 ⟨rfl, hb⟩
    go_wp2
    go_ret
    exact ⟨ret_bool (unhide HT).symm, hb⟩
  | true =>
    have hl := (trm_len hy).2
    rw [hy] at H1
    cases hc : callT t with
    | false =>
      have HT := hide (show topB t = false by unfold topB; rw [hy, hc]; rfl)
      rw [hc] at HC
      clear hy hc hA hF
      go_enter Try.func56, Try.ntmps56
      go_wp2_with fail
      refine (unhide H1).mono ?_
      rintro e w1 ⟨rfl, hb⟩
      go_wp2_with fail
      refine (unhide HC w1 hb).mono ?_
      rintro e w2 ⟨rfl, rfl⟩
      go_wp2
      go_ret
      exact ⟨ret_bool (unhide HT).symm, hb⟩
    | true =>
      have HK := hide (fun (W : World) (hW : Below w.heap.size w W) => specTrmCanon_any ao cap t W (by omega) (hA.below hW))
      have HS := hide (fun (W : World) (v : Value) (b : Nat) (hW : Below w.heap.size w W) (hO : OwnC W b v (canonOf t)) => (show ∃ po pc, v = .slice po (canonOf t).length pc ∧ Calls Try.prog 114 #[.slice po (canonOf t).length pc, .slice ao t.length cap] W (fun e w' => e = .returned (.bool (topB t)) ∧ Below W.heap.size W w') from by
        obtain ⟨po, pc, rfl, hR⟩ := hO.shape
        refine ⟨po, pc, rfl, ?_⟩
        have h := specTrmSame_any po ao pc cap (canonOf t) t W (by rw [canonOf_length]; exact hm) hR (hA.below hW)
        rw [show topB t = sameS (canonOf t) t by unfold topB; rw [hy, hc]; rfl]
        exact h))
      rw [hc] at HC
      obtain ⟨B, hB⟩ : ∃ B, B = topB t := ⟨_, rfl⟩
      rw [← hB] at HS ⊢
      clear hB hy hc hA hF
      go_enter Try.func56, Try.ntmps56
      go_wp2_with fail
      refine (unhide H1).mono ?_
      rintro e w1 ⟨rfl, hb⟩
      go_wp2_with fail
      refine (unhide HC w1 hb).mono ?_
      rintro e w2 ⟨rfl, rfl⟩
      go_wp2_with fail
      refine (unhide HK w2 hb).mono ?_
      rintro e w3 ⟨v, rfl, hO, hb3⟩
      have hb3' := bstep hb hb3
      obtain ⟨po, pc, rfl, HS'⟩ := unhide HS w3 v _ hb3' hO
      have HS2 := hide HS'
      clear HS' HS HK HC H1 hO
      go_wp2_with fail
      refine (unhide HS2).mono ?_
      rintro e w4 ⟨rfl, hb4⟩
      have FIN := hide (bstep hb3' hb4)
      clear HS2 hb3 hb3' hb4 hb
      go_wp2
      go_ret
      exact ⟨rfl, unhide FIN⟩
end Go.Proofs.Ytkedckmpjedjoaa

/- What may be asked: the program's tree of it. -/
namespace Go.Proofs.Ytkedckmpjedjoaa
open Go.RowKit Go.Shelf
set_option linter.unusedVariables false
set_option linter.unusedSimpArgs false

/-- What questionOf comes to. -/
def AskOut (w : World) (t : List C) (e : Ending) (w' : World) : Prop := Below w.heap.size w w' ∧ ((topB t = true ∧ ∃ p, e = .returned (.pointer (some ⟨p, 0, none⟩)) ∧ TreL w.heap.size w'.heap.size w' p t) ∨ (topB t = false ∧ e = .returned (.pointer none)))

set_option maxRecDepth 100000 in
set_option maxHeartbeats 1000000 in
theorem questionOf_any (ao : Option Addr) (cap : Nat) (t : List C) (w : World) (hcap : t.length ≤ cap) (hcm : cap ≤ maxLen) (hA : Row w ao t) (hF : Fit t) (hwf : WfC t) :
    Calls Try.prog 59 #[.slice ao t.length cap] w (AskOut w t) := by
  have hm := Nat.le_trans hcap hcm
  have H1 := hide (treeOf_opt w.heap.size ao cap t w (Nat.le_refl _) hcap hcm hA hF)
  cases hy : trm t with
  | false =>
    have HT := hide (show topB t = false by unfold topB; rw [hy]; rfl)
    have HY := hide hy
    clear hy hA hF hwf
    go_enter Try.func59, Try.ntmps59
    go_wp2_with fail
    refine (unhide H1).mono ?_
    rintro e w1 ⟨o, rfl, hk, hb⟩
    obtain rfl : o = none := hk.none.2 (unhide HY)
    simp only [ptrV, Option.map]
    clear hk H1
    go_wp2
    go_ret
    exact ⟨hb, .inr ⟨unhide HT, rfl⟩⟩
  | true =>
    have hl := (trm_len hy).2
    cases hc : callT t with
    | false =>
      have HT := hide (show topB t = false by unfold topB; rw [hy, hc]; rfl)
      have HY := hide hy
      have hk3 : ¬ kind0 t = 3 := by rw [callT_kind] at hc; simpa using hc
      clear hy hc hA hF hwf
      go_enter Try.func59, Try.ntmps59
      go_wp2_with fail
      refine (unhide H1).mono ?_
      rintro e w1 ⟨o, rfl, hk, hb⟩
      obtain ⟨p, rfl, hT⟩ := hk.tree (unhide HY)
      have c0 := hk.kind p rfl
      simp only [ptrV, Option.map]
      generalize kind0 t = kk at c0 hk3
      have hbe : (kk != 3) = true := by simpa using hk3
      clear hk H1 hT
      go_wp2
      go_ret
      exact ⟨hb, .inr ⟨unhide HT, rfl⟩⟩
    | true =>
      have HK := hide (fun (W : World) (hW : Below w.heap.size w W) => TrmCanon_any ao cap t W (by omega) (hA.below hW) hwf)
      have HS := hide (fun (W : World) (v : Value) (b : Nat) (hW : Below w.heap.size w W) (hO : OwnC W b v (canonOf t)) => (show ∃ po pc, v = .slice po (canonOf t).length pc ∧ Calls Try.prog 117 #[.slice po (canonOf t).length pc, .slice ao t.length cap] W (fun e w' => e = .returned (.bool (topB t)) ∧ Below W.heap.size W w') from by
        obtain ⟨po, pc, rfl, hR⟩ := hO.shape
        refine ⟨po, pc, rfl, ?_⟩
        have h := TrmSame_any po ao pc cap (canonOf t) t W (by rw [canonOf_length]; exact hm) hR (hA.below hW)
        rw [show topB t = sameS (canonOf t) t by unfold topB; rw [hy, hc]; rfl]
        exact h))
      have HY := hide hy
      have hk3 : kind0 t = 3 := by rw [callT_kind] at hc; simpa using hc
      clear hy hc hA hF hwf
      go_enter Try.func59, Try.ntmps59
      go_wp2_with fail
      refine (unhide H1).mono ?_
      rintro e w1 ⟨o, rfl, hk, hb⟩
      obtain ⟨p, rfl, hT⟩ := hk.tree (unhide HY)
      have c0 := hk.kind p rfl
      simp only [ptrV, Option.map]
      rw [hk3] at c0
      have HTr := hide hT
      clear hk H1 hT hk3
      go_wp2_with fail
      refine (unhide HK w1 hb).mono ?_
      rintro e w3 ⟨v, rfl, hO, hb3⟩
      have hb3' := bstep hb hb3
      obtain ⟨po, pc, rfl, HS'⟩ := unhide HS w3 v _ hb3' hO
      have HS2 := hide HS'
      have HTr2 := hide ((unhide HTr).below hb3)
      clear HS' HS HK hO HTr c0
      go_wp2_with fail
      refine (unhide HS2).mono ?_
      rintro e w4 ⟨rfl, hb4⟩
      have FIN := hide (bstep hb3' hb4)
      have HTr := hide ((unhide HTr2).below hb4)
      clear HS2 hb3 hb3' hb4 hb HTr2
      cases hB : topB t with
      | true =>
        go_wp2
        go_ret
        exact ⟨unhide FIN, .inl ⟨hB, p, rfl, unhide HTr⟩⟩
      | false =>
        go_wp2
        go_ret
        exact ⟨unhide FIN, .inr ⟨hB, rfl⟩⟩
end Go.Proofs.Ytkedckmpjedjoaa

/- A program of the program, with all of its clauses. -/
namespace Go.Proofs.Ytkedckmpjedjoaa
open Go.RowKit Go.Shelf
set_option linter.unusedVariables false
set_option linter.unusedSimpArgs false
attribute [-go_sem] Go.Builtin.append_

theorem LkP.wide {lo hi lo' hi' : Nat} {W : World} {o : Option Nat} {t : List C} (h : LkP lo hi W o t) (hl : lo' ≤ lo) (hh : hi ≤ hi') : LkP lo' hi' W o t :=
  h.imp_left fun ⟨h1, p, e, h2⟩ => ⟨h1, p, e, h2.kept hl hh (fun _ _ _ => rfl)⟩

/-- A clause of the program, all of it in blocks from lo to hi. -/
def ClF (lo hi : Nat) (W : World) (P : Nat) (x : Cl) : Prop :=
  ∃ (o : Option Nat) (ao : Option Addr) (cap : Nat), lo ≤ P ∧ P < hi ∧ W.cell? ⟨P, 0, none⟩ = some (ptrV o) ∧ W.cell? ⟨P, 1, none⟩ = some (.slice ao x.g.length cap) ∧ LkP lo hi W o x.h ∧
    (x.g = [] ∨ ∃ b, ao = some ⟨b, 0, none⟩ ∧ lo ≤ b ∧ b < hi ∧ ∀ i, (h : i < x.g.length) → ∃ v l r, W.cell? ⟨b, i, none⟩ = some v ∧ lo ≤ l ∧ r ≤ hi ∧ GoF l r x.g[i] W v)
theorem ClF.kept {lo hi hi' : Nat} {W W' : World} {P : Nat} {x : Cl} (h : ClF lo hi W P x) (hh : hi ≤ hi') (hk : ∀ b, lo ≤ b → b < hi → W'.heap[b]? = W.heap[b]?) : ClF lo hi' W' P x := by
  obtain ⟨o, ao, cap, h1, h2, h3, h4, h5, h6⟩ := h
  refine ⟨o, ao, cap, h1, Nat.lt_of_lt_of_le h2 hh, (World.cell?_of_block (a := ⟨P, 0, none⟩) (hk P h1 h2)).trans h3, (World.cell?_of_block (a := ⟨P, 1, none⟩) (hk P h1 h2)).trans h4, (h5.kept hk).wide (Nat.le_refl _) hh, ?_⟩
  rcases h6 with h6 | ⟨b, e, b1, b2, hb⟩
  · exact .inl h6
  · refine .inr ⟨b, e, b1, Nat.lt_of_lt_of_le b2 hh, fun i hi => ?_⟩
    obtain ⟨v, l, r, q1, q2, q3, q4⟩ := hb i hi
    exact ⟨v, l, r, (World.cell?_of_block (a := ⟨b, i, none⟩) (hk b b1 b2)).trans q1, q2, Nat.le_trans q3 hh, q4.kept (fun c c1 c2 => hk c (Nat.le_trans q2 c1) (Nat.lt_of_lt_of_le c2 q3))⟩
theorem ClF.below {lo : Nat} {W W' : World} {P : Nat} {x : Cl} (h : ClF lo W.heap.size W P x) (hb : Below W.heap.size W W') : ClF lo W'.heap.size W' P x := h.kept hb.size (fun b _ h2 => hb.block b h2)
theorem clK_all {x : Cl} {o : Option Nat} {w wr : World} {P : Nat} {bv : Value} (h : ClK x o w P x.g.length wr bv) : ClF w.heap.size wr.heap.size wr P x := by
  obtain ⟨vs, h1, h2, h3, h4, h5, h6⟩ := h
  have hP : P < wr.heap.size := (Array.getElem?_eq_some_iff.1 h1).1
  obtain ⟨c0, c1, _, _⟩ := clause_cells h1
  rcases h2.2 with ⟨e, hn⟩ | ⟨g, cap, cur, e, hb, hg, _⟩
  · exact ⟨o, none, 0, h5, hP, c0, by rw [c1, e, hn], h4.wide (Nat.le_refl _) (by omega), .inl (List.length_eq_zero_iff.1 hn)⟩
  · have hgl : g < wr.heap.size := (Array.getElem?_eq_some_iff.1 hg).1
    refine ⟨o, some ⟨g, 0, none⟩, cap, h5, hP, c0, by rw [c1, e], h4.wide (Nat.le_refl _) (by omega), .inr ⟨g, rfl, by omega, hgl, fun i hi => ?_⟩⟩
    obtain ⟨v, l, r, q1, q2, q3, q4, q5⟩ := h3 i hi hi
    subst e
    have := h2.cellAt i (by have := h2.1; omega)
    exact ⟨v, l, r, this.trans q1, by omega, q3, q5⟩

/-- A program of the program: its clauses, one behind the other, and where names are called. -/
def PrN (w : World) (P : Nat) (cs : List Cl) (ps : List Pc) (wr : World) (vc vp : Value) : Prop :=
  PrM w P cs.length ps wr vc vp ∧ ∃ xs, wr.ownsRow (P + 1) 149 1 vc cs.length xs ∧
    ∀ i, (h : i < cs.length) → ∃ Q lo hi, xs[i]? = some (.pointer (some ⟨Q, 0, none⟩)) ∧ P < lo ∧ hi ≤ wr.heap.size ∧ (∀ g, vc.ownBlock = some g → g < lo ∨ hi ≤ g) ∧ ClF lo hi wr Q cs[i]
theorem PrN.below {w : World} {P : Nat} {cs : List Cl} {ps : List Pc} {wr wr' : World} {vc vp : Value} (h : PrN w P cs ps wr vc vp) (hb : Below wr.heap.size wr wr') : PrN w P cs ps wr' vc vp := by
  obtain ⟨hM, xs, hx, hc⟩ := h
  refine ⟨hM.below hb, xs, own_below hx hb, fun i hi => ?_⟩
  obtain ⟨Q, lo, hi', q1, q2, q3, q4, q5⟩ := hc i hi
  exact ⟨Q, lo, hi', q1, q2, Nat.le_trans q3 hb.size, q4, q5.kept (Nat.le_refl _) (fun b _ h2 => hb.block b (Nat.lt_of_lt_of_le h2 q3))⟩
theorem prN_none {w : World} {P : Nat} {ps : List Pc} {wr : World} {vc vp : Value} (h : PrM w P 0 ps wr vc vp) : PrN w P [] ps wr vc vp := by
  obtain ⟨xs, hx⟩ := h.oc
  exact ⟨h, xs, hx, fun i hi => absurd hi (Nat.not_lt_zero _)⟩
theorem prN_step {w wr w3 : World} {P Q lo hi g' cap' : Nat} {cs : List Cl} {c : Cl} {ps : List Pc} {vc vp : Value} {xs : List Value} {ob : Obj}
    (h : PrM w P cs.length ps wr vc vp) (hx : wr.ownsRow (P + 1) 149 1 vc cs.length xs)
    (h3 : ∀ i, (h : i < cs.length) → ∃ Q lo hi, xs[i]? = some (.pointer (some ⟨Q, 0, none⟩)) ∧ P < lo ∧ hi ≤ wr.heap.size ∧ (∀ g, vc.ownBlock = some g → g < lo ∨ hi ≤ g) ∧ ClF lo hi wr Q cs[i])
    (hlo : P < lo) (hhi : hi ≤ wr.heap.size) (hg : ∀ g, vc.ownBlock = some g → g < lo ∨ hi ≤ g) (hC : ClF lo hi wr Q c)
    (hown : w3.ownsRow (P + 1) 149 1 (.slice (some ⟨g', 0, none⟩) (cs.length + 1) cap') (cs.length + 1) (xs ++ [.pointer (some ⟨Q, 0, none⟩)])) (hgrow : (wr.alloc ob).grownBy w3 vc.ownBlock) (hat : vc.ownBlock = some g' ∨ g' = (wr.alloc ob).heap.size) :
    PrN w P (cs ++ [c]) ps (w3.setCell ⟨P, 0, none⟩ (.slice (some ⟨g', 0, none⟩) (cs.length + 1) cap')) (.slice (some ⟨g', 0, none⟩) (cs.length + 1) cap') vp := by
  have hM := (prM_clause h hx hown hgrow).2
  have hsa : (wr.alloc ob).heap.size = wr.heap.size + 1 := by simp
  have hs3 := hgrow.size
  have hszE : (w3.setCell ⟨P, 0, none⟩ (.slice (some ⟨g', 0, none⟩) (cs.length + 1) cap')).heap.size = w3.heap.size := by simp [World.setCell]
  have hlen : (cs ++ [c]).length = cs.length + 1 := by simp
  have hxl : xs.length = cs.length := by have := hx.1; omega
  have key : ∀ b, b < wr.heap.size → vc.ownBlock ≠ some b → b ≠ P → (w3.setCell ⟨P, 0, none⟩ (.slice (some ⟨g', 0, none⟩) (cs.length + 1) cap')).heap[b]? = wr.heap[b]? := fun b hb1 hb2 hb3 => by
    rw [Below.heap_setCell _ _ _ _ hb3, hgrow.block b (by omega) (fun e => hb2 e.symm)]
    exact Below.heap_alloc _ _ _ hb1
  have hnew : ∀ l r, r ≤ wr.heap.size → (∀ g, vc.ownBlock = some g → g < l ∨ r ≤ g) → ∀ g, (Value.slice (some ⟨g', 0, none⟩) (cs.length + 1) cap').ownBlock = some g → g < l ∨ r ≤ g := fun l r hr hv g e => by
    have : g' = g := by simpa [Value.ownBlock] using e
    subst this
    rcases hat with h | h
    · exact hv _ h
    · right; omega
  refine ⟨by rw [hlen]; exact hM, xs ++ [.pointer (some ⟨Q, 0, none⟩)], by rw [hlen]; exact own_block hown (fun j e => Below.heap_setCell _ _ _ _ (by have := (hown.lt j e).1; show j ≠ P; omega)), fun i hi' => ?_⟩
  by_cases e : i < cs.length
  · obtain ⟨q, l, r, q1, q2, q3, q4, q5⟩ := h3 i e
    refine ⟨q, l, r, by rw [List.getElem?_append_left (by omega)]; exact q1, q2, by omega, hnew l r q3 q4, ?_⟩
    rw [List.getElem_append_left e]
    exact q5.kept (Nat.le_refl _) (fun b b1 b2 => key b (by omega) (fun e => by rcases q4 b e with h | h <;> omega) (by omega))
  · obtain rfl : i = cs.length := by rw [hlen] at hi'; omega
    refine ⟨Q, lo, hi, by rw [List.getElem?_append_right (by omega), hxl]; simp, hlo, by omega, hnew lo hi hhi hg, ?_⟩
    rw [List.getElem_append_right (Nat.le_refl _)]
    simp only [Nat.sub_self, List.getElem_cons_zero]
    exact hC.kept (Nat.le_refl _) (fun b b1 b2 => key b (by omega) (fun e => by rcases hg b e with h | h <;> omega) (by omega))

set_option maxRecDepth 100000 in
set_option maxHeartbeats 4000000 in
theorem addClause_all (w : World) (P q lo hi' : Nat) (cs : List Cl) (c : Cl) (ps : List Pc) (wr : World) (vc vp : Value) (hc : cs.length < 12) (h0 : PrN w P cs ps wr vc vp) (hlo' : P < lo) (hhi' : hi' ≤ wr.heap.size) (hg' : ∀ g, vc.ownBlock = some g → g < lo ∨ hi' ≤ g) (hC : ClF lo hi' wr q c) :
    Calls Try.prog 104 #[.pointer (some ⟨P, 0, none⟩), .pointer (some ⟨q, 0, none⟩)] wr fun e w' => e = .returned (.bool true) ∧ ∃ vc', PrN w P (cs ++ [c]) ps w' vc' vp := by
  obtain ⟨i0, hi, hz0, hz1, hz2⟩ := info_parts (show (Try.prog.info? 149).map (fun i => (i.zero, i.size, i.bytes)) = some (some (.pointer none), 1, 8) by kernel_rfl)
  obtain ⟨h, xs, hx, h3⟩ := h0
  obtain ⟨c0, c1, f0, f1⟩ := program_cells h.hp
  obtain ⟨cl, hcl⟩ : ∃ cl, cl = cs.length := ⟨_, rfl⟩
  have hsh : ∃ ao cap, vc = .slice ao cl cap := by
    rcases hx.2 with ⟨e, hn⟩ | ⟨g, cap, cur, e, _⟩
    · exact ⟨none, 0, by rw [e, hcl, hn]⟩
    · exact ⟨_, _, by rw [hcl]; exact e⟩
  obtain ⟨ao, cap, rfl⟩ := hsh
  have hlt := h.lt
  have hlo := h.lo
  have ca0 := cell_keep5 c0 (.cells #[.pointer (some ⟨q, 0, none⟩)] 149)
  rw [← hcl] at hx
  obtain ⟨g', cap', w3, hr, hown', hgrow, hat, hgl⟩ := run_append_lies (P := Try.prog) (wr.alloc (.cells #[.pointer (some ⟨q, 0, none⟩)] 149)) 80 80 (P + 1) 149 i0 _ 1 8 Try.underlying80 hi hz0 hz1 hz2 rfl (by decide) (.slice ao cl cap) cl xs (World.ownsRow.alloc hx _) ⟨wr.heap.size, 0, none⟩ 1 1 [.pointer (some ⟨q, 0, none⟩)] rfl (cell_one_new wr _ _) (by simp [Value.oneCell']) (by omega) (by unfold maxLen; omega) (by omega) (by simp; omega) _ rfl
  have hr' : Sem.run Try.prog (Builtin.append_ #[80, 80] 80 #[.slice ao cl cap, .slice (some ⟨wr.heap.size, 0, none⟩) 1 1]) (wr.alloc (.cells #[.pointer (some ⟨q, 0, none⟩)] 149)) = .ok (.slice (some ⟨g', 0, none⟩) (cl + 1) cap') w3 := hr
  have hM : PrN w P (cs ++ [c]) ps (w3.setCell ⟨P, 0, none⟩ (.slice (some ⟨g', 0, none⟩) (cl + 1) cap')) (.slice (some ⟨g', 0, none⟩) (cl + 1) cap') vp := by
    subst hcl
    exact prN_step h hx h3 hlo' hhi' hg' hC hown' hgrow hat
  have hn3 := (prM_clause (by rw [← hcl] at h; exact h) hx hown' hgrow).1
  obtain ⟨t0, t1, s0, s1⟩ := program_cells hn3
  have HM := hide hM
  have hc12 : ((cl : Int) == 12) = false := by simp; omega
  have hcl12 : cl < 12 := by omega
  clear hr hM hown' hgrow hat hgl h hx hn3 h3 hC hg' hcl hc
  go_enter Try.func104, Try.ntmps104
  go_wp2
  go_ret
  exact ⟨rfl, _, unhide HM⟩
end Go.Proofs.Ytkedckmpjedjoaa

/- clauseOf of the program, and all of the clause. -/
namespace Go.Proofs.Ytkedckmpjedjoaa
open Go.RowKit Go.Shelf
set_option linter.unusedVariables false
set_option linter.unusedSimpArgs false
attribute [-go_sem] Go.Builtin.append_

set_option maxRecDepth 100000 in
set_option maxHeartbeats 8000000 in
theorem clauseOf_all (x : Cl) (v0 v1 : Value) (w : World) (hF : FitCl x) (hs : szCl x ≤ 1048576) (hv : ClV w x v0 v1) :
    Calls Try.prog 105 #[.agg #[v0, v1]] w fun e w' => ∃ P, e = .returned (ckV x P) ∧ (clB x = true → ClF w.heap.size w'.heap.size w' P x) ∧ Below w.heap.size w w' := by
  unfold szCl at hs
  obtain ⟨⟨xa, xc, rfl, a1, a2, hA⟩, ⟨ya, yc, rfl, b1, b2, hB⟩⟩ := hv
  obtain ⟨hb0, d0, d1⟩ := two_new w (.slice xa x.h.length xc) (.slice ya x.g.length yc) 142
  have hgl : x.g.length ≤ 1048576 := by omega
  have HB := hide (fun (W : World) (hW : Below w.heap.size w W) => hB.below hW)
  have HT := hide (fun (W : World) (hW : Below w.heap.size w W) => treeOf_opt w.heap.size xa xc x.h W hW.size a1 a2 (hA.below hW) hF.1.1)
  have HG := hide (fun (k : Nat) (hk : k < x.g.length) (v0 v1 v2 v3 : Value) (W : World) (hv : GlV W x.g[k] v0 v1 v2 v3) => goalOf_gl x.g[k] v0 v1 v2 v3 W (hF.2 _ (List.getElem_mem hk)) (Nat.le_trans (totG_mem (List.getElem_mem hk)) (by omega)) hv)
  obtain ⟨i0, hi, hz0, hz1, hz2⟩ := info_parts (show (Try.prog.info? 212).map (fun i => (i.zero, i.size, i.bytes)) = some (some .nilIface, 1, 16) by kernel_rfl)
  clear hA hB a1 a2 b1 b2 hs hF
  by_cases h4 : x.g.length ≤ 4
  · go_enter Try.func105, Try.ntmps105
    go_wp2_with fail
    generalize w.alloc (.cells #[.slice xa x.h.length xc, .slice ya x.g.length yc] 142) = w0 at hb0 d0 d1 ⊢
    have hl0 : w.heap.size < w0.heap.size := World.block_lt_of_cell? w0 ⟨_, _, none⟩ d1
    refine (unhide HT w0 hb0).mono ?_
    rintro e w1 ⟨o, rfl, hL, hb1⟩
    have e1 := (hb1.cell (p := ⟨w.heap.size, 1, none⟩) hl0).trans d1
    have hB1 := bstep hb0 hb1
    have hl1 : w.heap.size < w1.heap.size := World.block_lt_of_cell? w1 ⟨_, _, none⟩ e1
    have hbl := cell_below w1 (.cells #[ptrV o, .slice none 0 0] 210)
    have hK0 : ClK x o w w1.heap.size 0 (w1.alloc (.cells #[ptrV o, .slice none 0 0] 210)) (.slice none 0 0) :=
      ⟨[], World.alloc_heap_new w1 _, World.ownsRow_nil _ _ _ _, fun i _ h => absurd h (Nat.not_lt_zero _), (show LkP w.heap.size w1.heap.size w1 o x.h from hL).kept (fun b _ hb => Below.heap_alloc _ _ _ hb), Nat.le_of_lt hl1, bstep hB1 hbl⟩
    have f1 := cell_keep5 e1 (.cells #[ptrV o, .slice none 0 0] 210)
    have HK0 := hide hK0
    clear hK0 hL hb1 hl0 d0 d1 hb0 hbl e1 HT
    obtain ⟨P, hP⟩ : ∃ P, P = w1.heap.size := ⟨_, rfl⟩
    unfold ptrV at f1 ⊢
    go_wp2
    rw [← hP]
    have HK1 : Hid (ClK x o w P 0 (w1.alloc (.cells #[.pointer (o.map fun b => ⟨b, 0, none⟩), .slice none 0 0] 210)) (.slice none 0 0)) := by rw [hP]; exact unhide HK0
    generalize w1.alloc (.cells #[.pointer (o.map fun b => ⟨b, 0, none⟩), .slice none 0 0] 210) = wa at f1 HK1 ⊢
    clear HK0 hP hB1 hl1
    go_loopw [18] (fun i wr => ∃ (k : Nat) (bv : Value), k ≤ x.g.length ∧ i = .int .i64 k ∧ ClK x o w P k wr bv) (fun i _ => x.g.length - (intOf i).toNat)
    case atStart => exact ⟨0, _, Nat.zero_le _, rfl, unhide HK1⟩
    case round =>
      obtain ⟨k, bv, hk, rfl, hK⟩ := hrel
      clear HK1 f1
      by_cases hlt : k < x.g.length
      · obtain ⟨vs, hh1, hh2, hh3, hh4, hwP, hBr⟩ := hK
        have hPr : P < wr.heap.size := (Array.getElem?_eq_some_iff.1 hh1).1
        have HH1 := hide hh1
        have HO := hide hh2
        have HH3 := hide hh3
        have HH4 := hide hh4
        obtain ⟨_, hcP, _, _⟩ := clause_cells hh1
        clear hh1 hh2 hh3 hh4
        rcases unhide HB wr hBr with e | ⟨b, off, e, hA⟩
        · rw [e] at hlt; simp at hlt
        subst e
        obtain ⟨v0, v1, v2, v3, g0, g1, g2, g3, hv⟩ := hA k hlt
        have HV := hide hv
        obtain ⟨q0, ⟨pa, pc, q1, _⟩, ⟨qa, qc, q2, _⟩, ⟨ra, rc, q3, _⟩⟩ := hv
        subst q0 q1 q2 q3
        obtain ⟨y, hy⟩ : ∃ y, y = x.g[k] := ⟨_, rfl⟩
        have hbG0 := cell_below wr (.cells #[.int .i64 x.g[k].k, .slice pa x.g[k].a.length pc, .slice qa x.g[k].b.length qc, .slice ra x.g[k].c.length rc] 93)
        have H := hide (unhide HG k hlt _ _ _ _ _ ((unhide HV).below hbG0.drew))
        have hbG := hbG0.drew
        obtain ⟨m1, m2, m3, m4⟩ := four_new wr (.int .i64 x.g[k].k) (.slice pa x.g[k].a.length pc) (.slice qa x.g[k].b.length qc) (.slice ra x.g[k].c.length rc) 93
        have hcPa := cell_keep5 hcP (.cells #[.int .i64 x.g[k].k, .slice pa x.g[k].a.length pc, .slice qa x.g[k].b.length qc, .slice ra x.g[k].c.length rc] 93)
        clear HV hA HG HB hbG0 hy y
        cases hw : wholeG x.g[k] with
        | true =>
          go_wp2
          go_region_with (first
            | (go_at_call 146; refine (unhide H).mono ?_; rintro e w2 ⟨vv, rfl, hG, hb2⟩; obtain ⟨T, u, rfl⟩ := hG.yes hw; have hs2 := hb2.size; have hb20 : Below wr.heap.size wr w2 := bstep hbG hb2; have hP2 : P < w2.heap.size := Nat.lt_of_lt_of_le hPr hb20.size; have hh2 := (hb20.block P hPr).trans (unhide HH1); have hc1 := (clause_cells hh2).2.1; have hc1a : (w2.alloc (.cells #[.iface T u] 212)).cell? ⟨P, 1, none⟩ = some bv := cell_keep5 hc1 (.cells #[.iface T u] 212); obtain ⟨g', cap', w3, hr, hown', hgrow, hat, hgl⟩ := run_append_lies (P := Try.prog) (w2.alloc (.cells #[.iface T u] 212)) 208 208 (P + 1) 212 i0 _ 1 16 Try.underlying208 hi hz0 hz1 hz2 rfl (by decide) bv k vs (World.ownsRow.alloc (own_below (unhide HO) hb20) _) ⟨w2.heap.size, 0, none⟩ 1 1 [.iface T u] rfl (cell_one_new w2 _ _) (by simp [Value.oneCell']) (by omega) (by unfold maxLen; omega) (by omega) (by simp; omega) _ rfl; have hr' : Sem.run Try.prog (Builtin.append_ #[208, 208] 208 #[bv, .slice (some ⟨w2.heap.size, 0, none⟩) 1 1]) (w2.alloc (.cells #[.iface T u] 212)) = .ok (.slice (some ⟨g', 0, none⟩) (k + 1) cap') w3 := hr; clear hr; have hn3 := clK_node (unhide HH1) (unhide HO) hb20 hgrow; obtain ⟨_, hs3, _, hf3⟩ := clause_cells hn3; have HST := hide (clK_step hlt (unhide HH1) (unhide HO) (unhide HH3) (unhide HH4) hwP hBr hb20 (Nat.le_trans hbG.size (Nat.le_refl _)) (Nat.le_refl _) hG hown' hgrow hat); clear hn3 hown' hgrow hat hgl hG))
          all_goals go_wp2
          all_goals go_roundw
          all_goals first | exact ⟨k + 1, _, by omega, by go_num, unhide HST⟩ | (simp [intOf]; omega)
        | false =>
          go_wp2
          go_region_with (first
            | (go_at_call 146; refine (unhide H).mono ?_; rintro e w2 ⟨vv, rfl, hG, hb2⟩; obtain rfl := hG.no hw; have hs2 := hb2.size; have hb20 : Below wr.heap.size wr w2 := bstep hbG hb2; have hP2 : P < w2.heap.size := Nat.lt_of_lt_of_le hPr hb20.size; have hh2 := (hb20.block P hPr).trans (unhide HH1); have hc1 := (clause_cells hh2).2.1; have hc1a : (w2.alloc (.cells #[.nilIface] 212)).cell? ⟨P, 1, none⟩ = some bv := cell_keep5 hc1 (.cells #[.nilIface] 212); obtain ⟨g', cap', w3, hr, hown', hgrow, hat, hgl⟩ := run_append_lies (P := Try.prog) (w2.alloc (.cells #[.nilIface] 212)) 208 208 (P + 1) 212 i0 _ 1 16 Try.underlying208 hi hz0 hz1 hz2 rfl (by decide) bv k vs (World.ownsRow.alloc (own_below (unhide HO) hb20) _) ⟨w2.heap.size, 0, none⟩ 1 1 [.nilIface] rfl (cell_one_new w2 _ _) (by simp [Value.oneCell']) (by omega) (by unfold maxLen; omega) (by omega) (by simp; omega) _ rfl; have hr' : Sem.run Try.prog (Builtin.append_ #[208, 208] 208 #[bv, .slice (some ⟨w2.heap.size, 0, none⟩) 1 1]) (w2.alloc (.cells #[.nilIface] 212)) = .ok (.slice (some ⟨g', 0, none⟩) (k + 1) cap') w3 := hr; clear hr; have hn3 := clK_node (unhide HH1) (unhide HO) hb20 hgrow; obtain ⟨_, hs3, _, hf3⟩ := clause_cells hn3; have HST := hide (clK_step hlt (unhide HH1) (unhide HO) (unhide HH3) (unhide HH4) hwP hBr hb20 (Nat.le_trans hbG.size (Nat.le_refl _)) (Nat.le_refl _) hG hown' hgrow hat); clear hn3 hown' hgrow hat hgl hG))
          all_goals go_wp2
          all_goals go_roundw
          all_goals first | exact ⟨k + 1, _, by omega, by go_num, unhide HST⟩ | (simp [intOf]; omega)
      · have e : k = x.g.length := by omega
        subst e
        have HALL := hide (clK_all hK)
        obtain ⟨ao, cap, rfl, hM⟩ := clK_end hK
        obtain ⟨_, _, _, _, _, _, hBr⟩ := hK
        have HC := hide (checked_any w.heap.size P x o ao cap wr h4 hM)
        clear hM
        go_wp2_with (go_at_call 147; refine (unhide HC).mono ?_; rintro e w5 ⟨rfl, hb5⟩)
        go_ret
        exact ⟨P, rfl, fun _ => (unhide HALL).below hb5, bstep hBr hb5⟩
  · have h5 : 4 < (x.g.length : Int) := by omega
    have hc : ckV x 0 = .pointer none := by unfold ckV clB; simp [h4]
    have hcb : ¬ clB x = true := by unfold clB; simp [h4]
    have HC := hide (And.intro hc hcb)
    clear hc hcb
    go_enter Try.func105, Try.ntmps105
    go_wp2
    go_ret
    exact ⟨0, by rw [(unhide HC).1]; rfl, fun h => absurd h (unhide HC).2, hb0⟩
end Go.Proofs.Ytkedckmpjedjoaa
