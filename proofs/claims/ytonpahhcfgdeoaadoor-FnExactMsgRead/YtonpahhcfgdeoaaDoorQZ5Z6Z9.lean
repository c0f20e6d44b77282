import Derived.Test.YtonpahhcfgdeoaaDoorQZ4W15
import Derived.Test.YtonpahhcfgdeoaaDoorQYB1YB2W2W3
import Derived.Test.YtonpahhcfgdeoaaDoorQYS1YX1YB4W6W14YB5YT0
/- The reader of bytes: a term, the end. -/
namespace Go.Proofs.YtonpahhcfgdeoaaDoor
open Go.RowKit
set_option linter.unusedVariables false
set_option linter.unusedSimpArgs false
attribute [-go_sem] Go.Builtin.append_

/-- The run of an append of one new place. -/
theorem app_oneC (w : World) (base : Nat) (v : Value) (t : List C) (c : C) (hO : OwnC w base v t) (hb : base ≤ w.heap.size) (hl : t.length ≤ 1048576) :
    ∃ v' w', (Builtin.append_ #[23, 23] 23 #[v, .slice (some ⟨w.heap.size, 0, none⟩) 1 1]).run Tryd.prog (w.alloc (.cells #[.int .i64 c.k, .int .i64 c.n, .string c.s] 55)) = .ok v' w' ∧ OwnC w' base v' (t ++ [c]) ∧ Grew w v w' v' := by
  obtain ⟨i0, hi, hz0, hz1, hz2⟩ := info_parts Tryd.infoCell
  obtain ⟨g, cap, w1, hr, ho, hg, hat, _⟩ := run_append_lies (P := Tryd.prog) (w.alloc (.cells #[.int .i64 c.k, .int .i64 c.n, .string c.s] 55)) 23 23 base 55 i0 _ 3 32 Tryd.underlying23 hi hz0 hz1 hz2 rfl (by decide) v t.length _ (World.ownsRow.alloc hO _) ⟨w.heap.size, 0, none⟩ 1 1 [.int .i64 c.k, .int .i64 c.n, .string c.s] rfl (fun j u hj => cell_three_new w _ _ _ 55 j u hj) (by intro u hu; simp at hu; rcases hu with rfl | rfl | rfl <;> rfl) (by omega) (by unfold maxLen; omega) (by omega) (by simp; omega) _ rfl
  refine ⟨_, _, hr, ?_, ⟨?_, ?_⟩⟩
  · unfold OwnC
    rw [show (t ++ [c]).length = t.length + 1 by simp, flat_append]
    exact ho
  · exact grown_trans (grown_below (cell_below _ _)) hg
  · intro k hk
    have e : g = k := by simpa [Value.ownBlock] using hk
    subst e
    rcases hat with h | h
    · exact .inl h
    · right; rw [h]; simp

theorem ownC_nil (w : World) (base : Nat) : OwnC w base (.slice none 0 0) [] := ⟨rfl, .inl ⟨rfl, rfl⟩⟩
/-- While a term is being read: what was read, and where the reading stands. -/
def TermR (e1 : Bool) (Y : List Int) (y : List Int) (j : Nat) (ts : List C) (p : Nat) (er : Bool) : Prop :=
  ts.length = j ∧ (∀ c ∈ ts, c.s.size ≤ 255) ∧ p ≤ y.length ∧ ((er = true ∧ (e1 = true ∨ rdN j Y = none)) ∨ (er = false ∧ e1 = false ∧ rdN j Y = some (ts, y.drop p)))
theorem TermR.step {e1 : Bool} {Y y : List Int} {j : Nat} {ts : List C} {p p' : Nat} {er er' : Bool} {c : C} (h : TermR e1 Y y j ts p er) (hc : CellR er y p c p' er') : TermR e1 Y y (j + 1) (ts ++ [c]) p' er' := by
  obtain ⟨h1, h2, h3, h4⟩ := h
  obtain ⟨c1, c2, c3, c4⟩ := hc
  refine ⟨by simp [h1], ?_, c3, ?_⟩
  · intro x hx
    rcases List.mem_append.1 hx with hx | hx
    · exact h2 x hx
    · simp at hx; subst hx; exact c1
  · rw [rdN_snoc]
    rcases h4 with ⟨a, b | b⟩ | ⟨a, b, d⟩
    · left
      rcases c4 with ⟨x, _⟩ | ⟨_, x, _⟩
      · exact ⟨x, .inl b⟩
      · rw [a] at x; cases x
    · left
      rcases c4 with ⟨x, _⟩ | ⟨_, x, _⟩
      · exact ⟨x, .inr (by rw [b])⟩
      · rw [a] at x; cases x
    · rw [d]
      rcases c4 with ⟨x, z | z⟩ | ⟨x, _, z⟩
      · rw [a] at z; cases z
      · exact .inl ⟨x, .inr (by simp [z])⟩
      · exact .inr ⟨x, b, by simp [z]⟩

theorem OwnC.kept {w w' : World} {base R : Nat} {v : Value} {t : List C} (h : OwnC w base v t) (hg : w.grownBy w' (some R)) (hR : R < base) : OwnC w' base v t :=
  own_apart h hg (fun k e => by simp at e; omega)

/-- What the reading of a term comes to. -/
def TermOut (w : World) (ao : Option Addr) (R cap : Nat) (y : List Int) (p : Nat) (er : Bool) (e : Ending) (w' : World) : Prop :=
  ∃ v ts p' er', e = .returned v ∧ OwnC w' w.heap.size v ts ∧ p' ≤ y.length ∧ Rdr w' R ao cap y p' er' ∧ w.grownBy w' (some R) ∧
    ((er' = true ∧ (er = true ∨ rdT (y.drop p) = none)) ∨ (er' = false ∧ er = false ∧ rdT (y.drop p) = some (ts, y.drop p')))
theorem termOut_mk {w w' : World} {ao : Option Addr} {R cap : Nat} {y : List Int} {p p' : Nat} {er er' : Bool} {v : Value} {ts : List C} (h1 : OwnC w' w.heap.size v ts) (h2 : p' ≤ y.length) (h3 : Rdr w' R ao cap y p' er') (h4 : w.grownBy w' (some R))
    (h5 : (er' = true ∧ (er = true ∨ rdT (y.drop p) = none)) ∨ (er' = false ∧ er = false ∧ rdT (y.drop p) = some (ts, y.drop p'))) : TermOut w ao R cap y p er (.returned v) w' := ⟨v, ts, p', er', rfl, h1, h2, h3, h4, h5⟩

theorem term_done {er : Bool} {y : List Int} {p : Nat} {ts : List C} {p' : Nat} {er' : Bool} (hy : ByL y) (hp : p ≤ y.length)
    (h : TermR (tkE er y p 1) (y.drop (p + (tkZ er y p 1).length)) y (hiL (tkZ er y p 1)).toNat ts p' er') (ht : trm ts = true) :
    (er' = true ∧ (er = true ∨ rdT (y.drop p) = none)) ∨ (er' = false ∧ er = false ∧ rdT (y.drop p) = some (ts, y.drop p')) := by
  obtain ⟨h1, h2, h3, h4⟩ := h
  cases er with
  | true =>
    left
    rcases h4 with ⟨a, _⟩ | ⟨_, b, _⟩
    · exact ⟨a, .inl rfl⟩
    · cases b
  | false =>
    by_cases h1 : p + 1 ≤ y.length
    · obtain ⟨t1, t2⟩ := tk_yes h1
      have hz : ∃ k r, y.drop p = k :: r ∧ y.drop (p + 1) = r := by
        cases hd : y.drop p with
        | nil => have := congrArg List.length hd; simp at this; omega
        | cons k r => exact ⟨k, r, rfl, by rw [← List.drop_drop, hd]; rfl⟩
      obtain ⟨k, r, hd, hr⟩ := hz
      have hz1 : tkZ false y p 1 = [k] := by rw [t2, hd]; rfl
      have hk : hiL [k] = k := by simp [hiL]
      rw [hz1, t1, hk, show ([k] : List Int).length = 1 from rfl, hr] at h4
      rw [hd]
      rcases h4 with ⟨a, b | b⟩ | ⟨a, b, d⟩
      · cases b
      · exact .inl ⟨a, .inr (by simp [rdT, b])⟩
      · exact .inr ⟨a, rfl, by simp [rdT, d, ht]⟩
    · obtain ⟨t1, t2⟩ := tk_no (y := y) (p := p) (n := 1) (by omega)
      rw [t1] at h4
      left
      have hd : y.drop p = [] := by simp; omega
      rcases h4 with ⟨a, _⟩ | ⟨_, b, _⟩
      · exact ⟨a, .inr (by rw [hd]; rfl)⟩
      · cases b
theorem term_bad {er : Bool} {y : List Int} {p : Nat} {ts : List C} {p' : Nat} {er' : Bool} (hy : ByL y) (hp : p ≤ y.length)
    (h : TermR (tkE er y p 1) (y.drop (p + (tkZ er y p 1).length)) y (hiL (tkZ er y p 1)).toNat ts p' er') (ht : trm ts = false) :
    er = true ∨ rdT (y.drop p) = none := by
  obtain ⟨h1, h2, h3, h4⟩ := h
  cases er with
  | true => exact .inl rfl
  | false =>
    right
    by_cases h1 : p + 1 ≤ y.length
    · obtain ⟨t1, t2⟩ := tk_yes h1
      have hz : ∃ k r, y.drop p = k :: r ∧ y.drop (p + 1) = r := by
        cases hd : y.drop p with
        | nil => have := congrArg List.length hd; simp at this; omega
        | cons k r => exact ⟨k, r, rfl, by rw [← List.drop_drop, hd]; rfl⟩
      obtain ⟨k, r, hd, hr⟩ := hz
      have hz1 : tkZ false y p 1 = [k] := by rw [t2, hd]; rfl
      have hk : hiL [k] = k := by simp [hiL]
      rw [hz1, t1, hk, show ([k] : List Int).length = 1 from rfl, hr] at h4
      rw [hd]
      rcases h4 with ⟨a, b | b⟩ | ⟨a, b, d⟩
      · cases b
      · simp [rdT, b]
      · simp [rdT, d, ht]
    · have hd : y.drop p = [] := by simp; omega
      rw [hd]; rfl

set_option maxRecDepth 100000 in
set_option maxHeartbeats 4000000 in
theorem readTerm_any (ao : Option Addr) (R b off cap : Nat) (y : List Int) (p : Nat) (er : Bool) (w : World) (h : Rdr w R ao cap y p er) (hao : y = [] ∨ ao = some ⟨b, off, none⟩) (hA : AtY w b off y) (hy : ByL y) (hbR : b ≠ R) (hbl : b < w.heap.size) (hG : Gl w) (hR4 : 4 < R) (hp : p ≤ y.length) (hl : y.length ≤ 1048576) (hc : y.length ≤ cap) :
    Calls Tryd.prog 37 #[.pointer (some ⟨R, 0, none⟩)] w (TermOut w ao R cap y p er) := by
  have hlt := h.lt
  have H1 := hide (one_any ao R b off cap y p er w h hao hA hy hbR hG hp hl hc)
  have HY := hide hy
  have HD := hide (fun (ts : List C) (p' : Nat) (er' : Bool) => term_done (er := er) (y := y) (p := p) (ts := ts) (p' := p') (er' := er') hy hp)
  have HB := hide (fun (ts : List C) (p' : Nat) (er' : Bool) => term_bad (er := er) (y := y) (p := p) (ts := ts) (p' := p') (er' := er') hy hp)
  have hN : ∃ N : Nat, hiL (tkZ er y p 1) = N ∧ N ≤ 255 := by
    have hl1 := tkZ_len er y p 1
    have := hiL_in (tkZ_by (er := er) (p := p) (n := 1) hy) _ (Nat.le_refl _) (by omega)
    rw [List.take_length] at this
    refine ⟨(hiL (tkZ er y p 1)).toNat, by omega, ?_⟩
    rcases (show (tkZ er y p 1).length = 0 ∨ (tkZ er y p 1).length = 1 by omega) with e | e <;> rw [e] at this <;> simp at this <;> omega
  obtain ⟨N, hN, hN2⟩ := hN
  have hp1 := tkZ_place er y p 1 hp
  obtain ⟨e1, he1⟩ : ∃ e1, e1 = tkE er y p 1 := ⟨_, rfl⟩
  obtain ⟨p1, hp1'⟩ : ∃ p1, p1 = p + (tkZ er y p 1).length := ⟨_, rfl⟩
  rw [hN, Int.toNat_natCast, ← he1, ← hp1'] at HD HB
  rw [← hp1'] at hp1
  have HW := hide (And.intro hA hG)
  have HE := hide (And.intro he1 (And.intro hp1' hN))
  clear h hA hG hy he1 hp1' hN
  go_enter Tryd.func37, Tryd.ntmps37
  go_wp2_with fail
  refine (unhide H1).mono ?_
  rintro e w1 ⟨rfl, h1, g1⟩
  obtain ⟨he1, hp1', hN⟩ := unhide HE
  rw [← he1, ← hp1'] at h1
  rw [hN, Int.sub_zero]
  clear he1 hp1' hN
  have S1 : OwnC w1 w.heap.size (.slice none 0 0) [] := ownC_nil _ _
  have HI := hide (show TermR e1 (y.drop p1) y 0 [] p1 e1 from ⟨rfl, fun c hc => (by cases hc), hp1, by cases e1 <;> simp [rdN]⟩)
  go_wp2
  go_loopw [3, 6] (fun tv i wr => ∃ (j : Nat) (ts : List C) (p' : Nat) (er' : Bool), j ≤ N ∧ i = .int .i64 j ∧ OwnC wr w.heap.size tv ts ∧ TermR e1 (y.drop p1) y j ts p' er' ∧ Rdr wr R ao cap y p' er' ∧ w.grownBy wr (some R)) (fun _ i _ => N - (intOf i).toNat)
  case atStart => exact ⟨0, [], p1, e1, Nat.zero_le _, rfl, S1, unhide HI, h1, g1⟩
  case round =>
    obtain ⟨j, ts, p', er', hj, rfl, hown, hT, hRd, hg⟩ := hrel
    obtain ⟨hA, hG⟩ := unhide HW
    by_cases hjl : j < N
    · have HC := hide (cell_any ao R b off cap y p' er' wr hRd hao (atY_grown hA hg (fun k e => by simp at e; omega)) (unhide HY) hbR (Nat.lt_of_lt_of_le hbl hg.size) (hG.err hg hR4) hR4 hT.2.2.1 hl hc)
      have HO := hide (And.intro hown (And.intro hT hg))
      have htl : ts.length ≤ 255 := by have := hT.1; omega
      clear hown hT hRd hg hA hG S1 h1 g1
      go_wp2_with fail
      refine (unhide HC).mono ?_
      rintro e w2 ⟨c, p2, er2, rfl, hc2, hr2, hg2⟩
      obtain ⟨hown, hT, hg⟩ := unhide HO
      have hs2 := hg.size
      have hs3 := hg2.size
      obtain ⟨v', w3, hr, ho, hgr⟩ := app_oneC w2 w.heap.size u3 ts c (hown.kept hg2 hlt) (by omega) (by omega)
      have HF := hide (And.intro ho (And.intro (hT.step hc2) (And.intro (hr2.apart hgr.1 (fun e => by have := (World.ownsRow.lt (hown.kept hg2 hlt) _ e).1; omega)) (grown_row (grown_trans hg hg2) hgr.1 (fun k e => (World.ownsRow.lt (hown.kept hg2 hlt) _ e).1)))))
      clear hown hT hg ho hgr hc2 hr2 hg2 HC HO hs2 hs3
      go_wp2
      go_roundw
      case rel => exact ⟨j + 1, ts ++ [c], p2, er2, by omega, by go_num, (unhide HF).1, (unhide HF).2.1, (unhide HF).2.2.1, (unhide HF).2.2.2⟩
      case measure => simp [intOf]; omega
    · have hjn : j = N := by omega
      subst hjn
      obtain ⟨ao', cap', rfl, hrow⟩ := hown.shape
      have hlen : ts.length ≤ 255 := by have := hT.1; omega
      have HTO := hide (TrmOk_any ao' cap' ts wr (by unfold maxLen; omega) hrow (fun c hcc => by have := hT.2.1 c hcc; unfold maxLen; omega))
      have HO := hide (And.intro hown (And.intro hT (And.intro hRd hg)))
      clear hown hT hRd hg hA hG S1 h1 g1 hrow
      cases ht : trm ts with
      | true =>
        rw [ht] at HTO
        go_wp2_with fail
        refine (unhide HTO).mono ?_
        rintro e w2 ⟨rfl, hb2⟩
        obtain ⟨hown, hT, hRd, hg⟩ := unhide HO
        have HF := hide (termOut_mk (er := er) (hown.below hb2) hT.2.2.1 (hRd.below hb2) (grown_trans hg (grown_below hb2)) (unhide HD _ _ _ hT ht))
        clear hown hT hRd hg hb2
        go_wp2
        go_ret
        exact unhide HF
      | false =>
        rw [ht] at HTO
        go_wp2_with fail
        refine (unhide HTO).mono ?_
        rintro e w2 ⟨rfl, hb2⟩
        obtain ⟨hown, hT, hRd, hg⟩ := unhide HO
        obtain ⟨T0, u0, g0⟩ := ((unhide HW).2.err hg hR4) 2 (.inr (.inl rfl))
        have g0' := (hb2.cell (p := ⟨2, 0, none⟩) (World.block_lt_of_cell? wr ⟨_, _, none⟩ g0)).trans g0
        have HX := hide (fail_any R ao cap y p' er' T0 u0 w2 (hRd.below hb2))
        have HF := hide (And.intro (OwnC.below hown hb2) (And.intro hT.2.2.1 (And.intro (grown_trans hg (grown_below hb2)) (unhide HB _ _ _ hT ht))))
        clear hown hT hRd hg hb2 g0
        go_wp2_with fail
        refine (unhide HX).mono ?_
        rintro e w3 ⟨⟨v, rfl⟩, h3, hg3⟩
        obtain ⟨f1, f2, f3, f4⟩ := unhide HF
        have HF2 := hide (termOut_mk (er := er) (f1.kept hg3 hlt) f2 h3 (grown_trans f3 hg3) (.inl ⟨rfl, f4⟩))
        clear f1 f2 f3 f4 HF h3 hg3
        go_wp2
        go_ret
        exact unhide HF2
end Go.Proofs.YtonpahhcfgdeoaaDoor

/- The reader of bytes: the end; the program's TrmTake. -/
namespace Go.Proofs.YtonpahhcfgdeoaaDoor
open Go.RowKit
set_option linter.unusedVariables false
set_option linter.unusedSimpArgs false

set_option maxRecDepth 100000 in
set_option maxHeartbeats 2000000 in
theorem end_any (R : Nat) (ao : Option Addr) (cap : Nat) (y : List Int) (p : Nat) (er : Bool) (w : World) (h : Rdr w R ao cap y p er) (hG : Gl w) (hp : p ≤ y.length) (hl : y.length ≤ 1048576) :
    Calls Tryd.prog 39 #[.pointer (some ⟨R, 0, none⟩)] w fun e w' => (∃ v, e = .returned v) ∧ Rdr w' R ao cap y p (er || decide (p < y.length)) ∧ w.grownBy w' (some R) := by
  have HL := hide (left_any R ao cap y p er w h hp hl)
  have HR := hide h
  obtain ⟨T0, u0, g0⟩ := hG 3 (.inr (.inr rfl))
  by_cases hlt : p < y.length
  · go_enter Tryd.func39, Tryd.ntmps39
    go_wp2_with fail
    refine (unhide HL).mono ?_
    rintro e w1 ⟨rfl, nq, rfl⟩
    have HX := hide (fail_any R _ cap y p er T0 u0 (w.drewN nq) ((unhide HR).drewN nq))
    go_wp2_with fail
    refine (unhide HX).mono ?_
    rintro e w2 ⟨⟨v, rfl⟩, h2, hg2⟩
    have HF := hide (And.intro h2 (grown_drewN hg2))
    clear h2 hg2 h hG
    go_wp2
    exact bodyPost_end (results_none rfl _ _ _) rfl ⟨⟨_, rfl⟩, by rw [show (er || decide (p < y.length)) = true by simp [hlt]]; exact (unhide HF).1, (unhide HF).2⟩
  · have hpe : p = y.length := by omega
    go_enter Tryd.func39, Tryd.ntmps39
    go_wp2_with fail
    refine (unhide HL).mono ?_
    rintro e w1 ⟨rfl, nq, rfl⟩
    have e0 : ((y.length : Int) - p) = 0 := by omega
    rw [e0]
    clear e0 h hG hpe
    go_wp2
    exact bodyPost_end (results_none rfl _ _ _) rfl ⟨⟨_, rfl⟩, by rw [show (er || decide (p < y.length)) = er by simp [hlt]]; exact (unhide HR).drewN _, grown_drewN (grown_refl _ _)⟩

/-- What a term that was taken out of bytes is. -/
def TakeOut (w : World) (y : List Int) (e : Ending) (w' : World) : Prop := ∃ v, e = .returned (.tuple #[v, .bool (rdAll y).isSome]) ∧ OwnC w' w.heap.size v ((rdAll y).getD []) ∧ Below w.heap.size w w'
theorem takeOut_no {w w' : World} {y : List Int} {v : Value} (h : rdAll y = none) (hO : OwnC w' w.heap.size v []) (hB : Below w.heap.size w w') : TakeOut w y (.returned (.tuple #[v, .bool false])) w' := ⟨v, by rw [h]; rfl, by rw [h]; exact hO, hB⟩
theorem takeOut_yes {w w' : World} {y : List Int} {v : Value} {t : List C} (h : rdAll y = some t) (hO : OwnC w' w.heap.size v t) (hB : Below w.heap.size w w') : TakeOut w y (.returned (.tuple #[v, .bool true])) w' := ⟨v, by rw [h]; rfl, by rw [h]; exact hO, hB⟩
theorem rdAll_of {y : List Int} {ts : List C} {p' : Nat} {er' : Bool} (hp : p' ≤ y.length) (h : (er' = true ∧ (false = true ∨ rdT (y.drop 0) = none)) ∨ (er' = false ∧ True ∧ rdT (y.drop 0) = some (ts, y.drop p'))) :
    ((er' || decide (p' < y.length)) = true ∧ rdAll y = none) ∨ ((er' || decide (p' < y.length)) = false ∧ rdAll y = some ts) := by
  rw [List.drop_zero] at h
  rcases h with ⟨a, b | b⟩ | ⟨a, _, d⟩
  · cases b
  · exact .inl ⟨by simp [a], by simp [rdAll, b]⟩
  · by_cases hlt : p' < y.length
    · left
      refine ⟨by simp [hlt], ?_⟩
      cases hd : y.drop p' with
      | nil => have := congrArg List.length hd; simp at this; omega
      | cons k r => rw [hd] at d; simp [rdAll, d]
    · right
      refine ⟨by simp [a, hlt], ?_⟩
      have hd : y.drop p' = [] := by simp; omega
      rw [hd] at d
      simp [rdAll, d]

end Go.Proofs.YtonpahhcfgdeoaaDoor

/- The reader of bytes: a frame opened and closed. -/
namespace Go.Proofs.YtonpahhcfgdeoaaDoor
open Go.RowKit
set_option linter.unusedVariables false
set_option linter.unusedSimpArgs false

/-- The two errors of frames are there. -/
def Gl2 (w : World) : Prop := ∀ g, g = 0 ∨ g = 1 → ∃ T u, w.cell? ⟨g, 0, none⟩ = some (.iface T u)
theorem Gl2.grown {w w' : World} {r : Option Nat} (h : Gl2 w) (hg : w.grownBy w' r) (hr : ∀ k, r = some k → 4 < k) : Gl2 w' := fun g hgl => by
  obtain ⟨T, u, hc⟩ := h g hgl
  refine ⟨T, u, (World.cell?_of_block (a := ⟨g, 0, none⟩) (hg.block g (World.block_lt_of_cell? w _ hc) (fun e => ?_))).trans hc⟩
  have := hr g e.symm
  omega

/-- A frame's head: whether it is no head. -/
def opE (y : List Int) : Bool := tkE false y 0 2 || (hiL (tkZ false y 0 2) != (y.length : Int) - ((tkZ false y 0 2).length : Nat) - 2)
def FrOut (w : World) (R : Nat) (ao : Option Addr) (cap : Nat) (y : List Int) (p : Nat) (er : Bool) (e : Ending) (w' : World) : Prop := (∃ v, e = .returned v) ∧ Rdr w' R ao cap y p er ∧ w.grownBy w' (some R)

set_option maxRecDepth 100000 in
set_option maxHeartbeats 2000000 in
theorem openFrame_any (ao : Option Addr) (R b off cap : Nat) (y : List Int) (w : World) (h : Rdr w R ao cap y 0 false) (hao : y = [] ∨ ao = some ⟨b, off, none⟩) (hA : AtY w b off y) (hy : ByL y) (hbR : b ≠ R) (hG : Gl w) (hG2 : Gl2 w) (hR4 : 4 < R) (hl : y.length ≤ 1048576) (hc : y.length ≤ cap) :
    Calls Tryd.prog 16 #[.pointer (some ⟨R, 0, none⟩)] w (FrOut w R ao cap y (tkZ false y 0 2).length (opE y)) := by
  have HT := hide (high_any ao R b off cap y 0 false 2 w h hao hA hy hbR hG (by omega) hl (by omega) (by omega) hc)
  have hp2 := tkZ_place false y 0 2 (by omega)
  rw [Nat.zero_add] at hp2
  have hs : 0 ≤ hiL (tkZ false y 0 2) ∧ hiL (tkZ false y 0 2) < 65536 := by
    have hl3 := tkZ_len false y 0 2
    have := hiL_in (tkZ_by (er := false) (p := 0) (n := 2) hy) _ (Nat.le_refl _) (by omega)
    rw [List.take_length] at this
    generalize (tkZ false y 0 2).length = m at this hl3
    rcases (show m = 0 ∨ m = 1 ∨ m = 2 by omega) with rfl | rfl | rfl <;> simp at this ⊢ <;> omega
  have HG2 := hide (fun (W : World) (hg : w.grownBy W (some R)) => hG2.grown hg (fun k e => by simp at e; omega))
  have HO := hide (show opE y = (tkE false y 0 2 || (hiL (tkZ false y 0 2) != (y.length : Int) - ((tkZ false y 0 2).length : Nat) - 2)) from rfl)
  obtain ⟨o, ho⟩ : ∃ o, o = opE y := ⟨_, rfl⟩
  rw [← ho] at HO ⊢
  obtain ⟨s, hs'⟩ : ∃ s, s = hiL (tkZ false y 0 2) := ⟨_, rfl⟩
  obtain ⟨q, hq⟩ : ∃ q, q = (tkZ false y 0 2).length := ⟨_, rfl⟩
  obtain ⟨er, her⟩ : ∃ er, er = tkE false y 0 2 := ⟨_, rfl⟩
  rw [← hs'] at hs HO
  rw [← hq] at hp2 HO ⊢
  rw [← her] at HO
  have HS := hide (And.intro hs' (And.intro hq her))
  clear ho hs' hq her h hA hG hG2 hy hao
  go_enter Tryd.func16, Tryd.ntmps16
  go_wp2_with fail
  refine (unhide HT).mono ?_
  rintro e w1 ⟨rfl, h1, g1⟩
  obtain ⟨hs', hq, her⟩ := unhide HS
  rw [Nat.zero_add, ← hq, ← her] at h1
  rw [← hs', Int.sub_zero]
  clear hs' hq her HS HT
  have HL := hide (left_any R ao cap y q er w1 h1 hp2 hl)
  have H1 := hide (And.intro h1 g1)
  obtain ⟨T0, u0, g0⟩ := unhide HG2 w1 g1 0 (.inl rfl)
  clear h1 g1
  by_cases hse : s = (y.length : Int) - (q : Int) - 2
  · have hbb : (s != (y.length : Int) - (q : Int) - 2) = false := by rw [bne_eq_false_iff_eq]; exact hse
    clear hse
    go_wp2_with fail
    refine (unhide HL).mono ?_
    rintro e w2 ⟨rfl, nq, rfl⟩
    go_wp2
    exact bodyPost_end (results_none rfl _ _ _) rfl ⟨⟨_, rfl⟩, by rw [unhide HO, hbb, Bool.or_false]; exact (unhide H1).1.drewN _, grown_drewN' (unhide H1).2⟩
  · have hbb : (s != (y.length : Int) - (q : Int) - 2) = true := by rw [bne_iff_ne]; exact hse
    clear hse
    have HX := hide (fun (n : Nat) => fail_any R ao cap y q er T0 u0 (w1.drewN n) ((unhide H1).1.drewN n))
    go_wp2_with fail
    refine (unhide HL).mono ?_
    rintro e w2 ⟨rfl, nq, rfl⟩
    go_wp2_with fail
    refine (unhide HX nq).mono ?_
    rintro e w3 ⟨⟨v, rfl⟩, h3, g3⟩
    have HF := hide (And.intro h3 (grown_trans (unhide H1).2 (grown_drewN g3)))
    clear h3 g3
    go_wp2
    exact bodyPost_end (results_none rfl _ _ _) rfl ⟨⟨_, rfl⟩, by rw [unhide HO, hbb, Bool.or_true]; exact (unhide HF).1, (unhide HF).2⟩
end Go.Proofs.YtonpahhcfgdeoaaDoor
