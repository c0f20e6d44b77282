/- The reader of bytes: the end; the program's TrmTake. -/
import Derived.Test.YtjinbinnjpjniaaDoorQZ5
namespace Go.Proofs.YtjinbinnjpjniaaDoor
open Go.RowKit
set_option linter.unusedVariables false
set_option linter.unusedSimpArgs false

set_option maxRecDepth 100000 in
set_option maxHeartbeats 2000000 in
theorem end_any (R : Nat) (ao : Option Addr) (cap : Nat) (y : List Int) (p : Nat) (er : Bool) (w : World) (h : Rdr w R ao cap y p er) (hG : Gl w) (hp : p ≤ y.length) (hl : y.length ≤ 1048576) :
    Calls Tryd.prog 34 #[.pointer (some ⟨R, 0, none⟩)] w fun e w' => (∃ v, e = .returned v) ∧ Rdr w' R ao cap y p (er || decide (p < y.length)) ∧ w.grownBy w' (some R) := by
  have HL := hide (left_any R ao cap y p er w h hp hl)
  have HR := hide h
  obtain ⟨T0, u0, g0⟩ := hG 1 (.inr (.inr rfl))
  by_cases hlt : p < y.length
  · go_enter Tryd.func34, Tryd.ntmps34
    go_wp2_with fail
    refine (unhide HL).mono ?_
    rintro e w1 ⟨rfl, nq, rfl⟩
    have HX := hide (fail_any R _ cap y p er T0 u0 (w.drewN nq) ((unhide HR).drewN nq))
    go_wp2_with fail
    refine (unhide HX).mono ?_
    rintro e w2 ⟨⟨v, rfl⟩, h2, hg2⟩
    have HF := hide (And.intro h2 (grown_drewN hg2))
    clear h2 hg2 h hG
    go_wp2
    exact bodyPost_end (results_none rfl _ _ _) rfl ⟨⟨_, rfl⟩, by rw [show (er || decide (p < y.length)) = true by simp [hlt]]; exact (unhide HF).1, (unhide HF).2⟩
  · have hpe : p = y.length := by omega
    go_enter Tryd.func34, Tryd.ntmps34
    go_wp2_with fail
    refine (unhide HL).mono ?_
    rintro e w1 ⟨rfl, nq, rfl⟩
    have e0 : ((y.length : Int) - p) = 0 := by omega
    rw [e0]
    clear e0 h hG hpe
    go_wp2
    exact bodyPost_end (results_none rfl _ _ _) rfl ⟨⟨_, rfl⟩, by rw [show (er || decide (p < y.length)) = er by simp [hlt]]; exact (unhide HR).drewN _, grown_drewN (grown_refl _ _)⟩

/-- What a term that was taken out of bytes is. -/
def TakeOut (w : World) (y : List Int) (e : Ending) (w' : World) : Prop := ∃ v, e = .returned (.tuple #[v, .bool (rdAll y).isSome]) ∧ OwnC w' w.heap.size v ((rdAll y).getD []) ∧ Below w.heap.size w w'
theorem takeOut_no {w w' : World} {y : List Int} {v : Value} (h : rdAll y = none) (hO : OwnC w' w.heap.size v []) (hB : Below w.heap.size w w') : TakeOut w y (.returned (.tuple #[v, .bool false])) w' := ⟨v, by rw [h]; rfl, by rw [h]; exact hO, hB⟩
theorem takeOut_yes {w w' : World} {y : List Int} {v : Value} {t : List C} (h : rdAll y = some t) (hO : OwnC w' w.heap.size v t) (hB : Below w.heap.size w w') : TakeOut w y (.returned (.tuple #[v, .bool true])) w' := ⟨v, by rw [h]; rfl, by rw [h]; exact hO, hB⟩
theorem rdAll_of {y : List Int} {ts : List C} {p' : Nat} {er' : Bool} (hp : p' ≤ y.length) (h : (er' = true ∧ (false = true ∨ rdT (y.drop 0) = none)) ∨ (er' = false ∧ True ∧ rdT (y.drop 0) = some (ts, y.drop p'))) :
    ((er' || decide (p' < y.length)) = true ∧ rdAll y = none) ∨ ((er' || decide (p' < y.length)) = false ∧ rdAll y = some ts) := by
  rw [List.drop_zero] at h
  rcases h with ⟨a, b | b⟩ | ⟨a, _, d⟩
  · cases b
  · exact .inl ⟨by simp [a], by simp [rdAll, b]⟩
  · by_cases hlt : p' < y.length
    · left
      refine ⟨by simp [hlt], ?_⟩
      cases hd : y.drop p' with
      | nil => have := congrArg List.length hd; simp at this; omega
      | cons k r => rw [hd] at d; simp [rdAll, d]
    · right
      refine ⟨by simp [a, hlt], ?_⟩
      have hd : y.drop p' = [] := by simp; omega
      rw [hd] at d
      simp [rdAll, d]

set_option maxRecDepth 100000 in
set_option maxHeartbeats 4000000 in
theorem implTrmTake_any (ao : Option Addr) (cap : Nat) (y : List Int) (w : World) (hA : RowY w ao y) (hy : ByL y) (hG : Gl w) (hl : y.length ≤ 1048576) (hc : y.length ≤ cap) :
    Calls Tryd.prog 9 #[.slice ao y.length cap] w (TakeOut w y) := by
  have h4 : 4 < w.heap.size := by
    obtain ⟨T, u, g⟩ := hG 4 (by decide)
    exact World.block_lt_of_cell? w ⟨4, 0, none⟩ g
  have hb : ∃ b off, (y = [] ∨ ao = some ⟨b, off, none⟩) ∧ AtY w b off y ∧ b < w.heap.size := by
    rcases hA with rfl | ⟨b, off, rfl, hA⟩
    · exact ⟨0, 0, .inl rfl, fun i hi => by simp at hi, by omega⟩
    · by_cases h0 : 0 < y.length
      · exact ⟨b, off, .inr rfl, hA, hA.lt h0⟩
      · have : y = [] := List.length_eq_zero_iff.1 (by omega)
        exact ⟨0, 0, .inl this, fun i hi => by omega, by omega⟩
  obtain ⟨b, off, hao, hAt, hbl⟩ := hb
  obtain ⟨W, hW⟩ : ∃ W, W = w.alloc (Obj.cells #[Value.slice ao y.length cap, Value.int IntKind.i64 0, Value.nilIface] 54) := ⟨_, rfl⟩
  have hB0 : Below w.heap.size w W := by rw [hW]; exact cell_below _ _
  have hRd : Rdr W w.heap.size ao cap y 0 false := by rw [hW]; exact ⟨.nilIface, heap_alloc_new w _, rfl⟩
  have hWs : w.heap.size < W.heap.size := hRd.lt
  have HT := hide (readTerm_any ao w.heap.size b off cap y 0 false W hRd hao (hAt.below hB0) hy (by omega) (by omega) (hG.err (grown_below hB0) h4) h4 (by omega) hl hc)
  have HB := hide (And.intro hB0 hG)
  clear hRd hAt hB0 hA hG
  go_enter Tryd.func9, Tryd.ntmps9
  go_wp2_with fail
  rw [← hW]
  clear hW
  refine (unhide HT).mono ?_
  rintro e w1 ⟨v, ts, p', er', rfl, hO, hp', hR1, hg1, hend⟩
  have HE := hide (end_any w.heap.size ao cap y p' er' w1 hR1 ((unhide HB).2.err (grown_trans (grown_below (unhide HB).1) hg1) h4) hp' hl)
  have HO := hide (And.intro hO (And.intro hg1 hend))
  clear hO hR1 hg1 hend
  go_wp2_with fail
  refine (unhide HE).mono ?_
  rintro e w2 ⟨⟨v2, rfl⟩, hR2, hg2⟩
  obtain ⟨hO, hg1, hend⟩ := unhide HO
  have hO2 := own_lo (base' := w.heap.size) (hO.kept hg2 hWs) (fun j e => by have := (World.ownsRow.lt (hO.kept hg2 hWs) j e).1; omega)
  have hB2 : Below w.heap.size w w2 := ((unhide HB).1.grown hg1 (by omega) (fun k e => by simp at e; omega)).grown hg2 (by have := hg1.size; omega) (fun k e => by simp at e; omega)
  rcases rdAll_of hp' hend with ⟨a, d⟩ | ⟨a, d⟩
  · rw [a] at hR2
    obtain ⟨ev, hb2, T', u', rfl⟩ := hR2
    obtain ⟨c0, c1, c2, f1, f2⟩ := three_rdr hb2
    have HF := hide (takeOut_no d (ownC_nil w2 w.heap.size) hB2)
    clear hO2 hB2 hO hg1 hg2 hend hb2 HO HB a d
    go_wp2
    exact bodyPost_ret (v := .tuple #[.slice none 0 0, .bool false]) (by simp [results, Tryd.results9, go_sem]) rfl (unhide HF)
  · rw [a] at hR2
    obtain ⟨ev, hb2, he⟩ := hR2
    have he' : ev = .nilIface := he
    subst he'
    obtain ⟨c0, c1, c2, f1, f2⟩ := three_rdr hb2
    have HF := hide (takeOut_yes d hO2 hB2)
    clear hO2 hB2 hO hg1 hg2 hend hb2 HO HB he a d
    go_wp2
    exact bodyPost_ret (v := .tuple #[v, .bool true]) (by simp [results, Tryd.results9, go_sem]) rfl (unhide HF)
end Go.Proofs.YtjinbinnjpjniaaDoor
