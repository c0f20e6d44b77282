/- The specification: terms out of bytes. -/
import Derived.Test.YtjinbinnjpjniaaDoorQZ6
import Derived.Test.YtjinbinnjpjniaaDoorQZ7
import Derived.Test.YtjinbinnjpjniaaDoorQYB2W2
namespace Go.Proofs.YtjinbinnjpjniaaDoor
open Go.RowKit
set_option linter.unusedVariables false
set_option linter.unusedSimpArgs false
attribute [-go_sem] Go.Builtin.append_

theorem l6Cell_any (b off cap : Nat) (y : List Int) (p : Nat) (w : World) (hA : AtY w b off y) (hy : ByL y) (hp : p ≤ y.length) (hl : y.length ≤ 1048576) (hc : y.length ≤ cap) :
    Calls Tryd.prog 62 #[.slice (some ⟨b, off, none⟩) y.length cap, .int .i64 p] w (CellS w y p) := by
  by_cases h : p + 4 ≤ y.length
  · exact l6Cell_long b off cap y p w hA hy h hl hc
  · exact l6Cell_short _ cap y p w (by omega) hp hl

/-- What the reading of a term comes to. -/
def TermS (w : World) (y : List Int) (e : Ending) (w' : World) : Prop :=
  ∃ (v : Value) (ts : List C) (q : Int), e = .returned (.tuple #[v, .int .i64 q]) ∧ OwnC w' w.heap.size v ts ∧
    ((q = -1 ∧ ts = [] ∧ rdT y = none) ∨ ∃ q' : Nat, q = q' ∧ q' ≤ y.length ∧ rdT y = some (ts, y.drop q')) ∧ Below w.heap.size w w'
theorem termS_no {w w' : World} {y : List Int} {v : Value} (h : rdT y = none) (hO : OwnC w' w.heap.size v []) (hB : Below w.heap.size w w') : TermS w y (.returned (.tuple #[v, .int .i64 (-1)])) w' := ⟨v, [], -1, rfl, hO, .inl ⟨rfl, rfl, h⟩, hB⟩
theorem termS_yes {w w' : World} {y : List Int} {v : Value} {ts : List C} {q : Nat} (h : rdT y = some (ts, y.drop q)) (hq : q ≤ y.length) (hO : OwnC w' w.heap.size v ts) (hB : Below w.heap.size w w') : TermS w y (.returned (.tuple #[v, .int .i64 q])) w' := ⟨v, ts, q, rfl, hO, .inr ⟨q, rfl, hq, h⟩, hB⟩
theorem made_noneC (w : World) (base : Nat) (hb : base ≤ w.heap.size) : OwnC (w.alloc (.cells #[] 59)) base (.slice (some ⟨w.heap.size, 0, none⟩) 0 0) [] := World.ownsRow_made w #[] 0 hb (by simp [maxLen]) rfl
theorem made_below (w W : World) (h : Below w.heap.size w W) : OwnC (W.alloc (.cells #[] 59)) w.heap.size (.slice (some ⟨W.heap.size, 0, none⟩) 0 0) [] ∧ Below w.heap.size w (W.alloc (.cells #[] 59)) := ⟨made_noneC W _ h.size, bstep h (cell_below _ _)⟩

set_option maxRecDepth 100000 in
set_option maxHeartbeats 1000000 in
theorem l6Term_nil (ao : Option Addr) (cap : Nat) (w : World) :
    Calls Tryd.prog 35 #[.slice ao 0 cap, .int .i64 0] w (TermS w []) := by
  have HF := hide (termS_no (y := []) rfl (made_below w w (Below.refl _ _)).1 (made_below w w (Below.refl _ _)).2)
  go_enter Tryd.func35, Tryd.ntmps35
  go_wp2
  exact bodyPost_ret (v := .tuple #[.slice (some ⟨w.heap.size, 0, none⟩) 0 0, .int .i64 (-1)]) (by simp [results, Tryd.results35, go_sem]) rfl (unhide HF)

set_option maxRecDepth 100000 in
set_option maxHeartbeats 4000000 in
theorem l6Term_some (b off cap : Nat) (k : Int) (r : List Int) (w : World) (hA : AtY w b off (k :: r)) (hy : ByL (k :: r)) (hl : (k :: r).length ≤ 1048576) (hc : (k :: r).length ≤ cap) :
    Calls Tryd.prog 35 #[.slice (some ⟨b, off, none⟩) (k :: r).length cap, .int .i64 0] w (TermS w (k :: r)) := by
  have hbl : b < w.heap.size := hA.lt (by simp)
  have d0 := hA 0 (by simp)
  have b0 := hy.get 0 (by simp)
  simp only [List.getElem_cons_zero, Nat.add_zero] at d0 b0
  obtain ⟨N, rfl⟩ := Int.eq_ofNat_of_zero_le b0.1
  have hN2 : N ≤ 255 := by omega
  obtain ⟨y, hy'⟩ : ∃ y, y = (N : Int) :: r := ⟨_, rfl⟩
  have hdr : y.drop 1 = r := by rw [hy']; rfl
  have hyl : 0 < y.length := by rw [hy']; simp
  have hne : ¬ y = [] := by rw [hy']; simp
  have HRd : Hid (∀ ts r', rdN N (y.drop 1) = some (ts, r') → rdT y = if trm ts then some (ts, r') else none) := by
    intro ts r' h
    rw [hdr] at h
    rw [hy']
    simp [rdT, h]
  have HRn : Hid (rdN N (y.drop 1) = none → rdT y = none) := by
    intro h
    rw [hdr] at h
    rw [hy']
    simp [rdT, h]
  rw [← hy'] at hA hy hl hc ⊢
  have HA := hide hA
  have HY := hide hy
  have hB1 := made_below w w (Below.refl _ _)
  have HM := hide hB1
  clear hA hy hy' hdr hB1
  go_enter Tryd.func35, Tryd.ntmps35
  go_wp2
  go_loopw [6, 7, 8] (fun tv pv i wr => ∃ (j p : Nat) (ts : List C), j ≤ N ∧ i = .int .i64 ((N : Int) - j) ∧ pv = .int .i64 p ∧ p ≤ y.length ∧ OwnC wr w.heap.size tv ts ∧ ts.length = j ∧ (∀ c ∈ ts, c.s.size ≤ 255) ∧ rdN j (y.drop 1) = some (ts, y.drop p) ∧ Below w.heap.size w wr) (fun _ _ i _ => (intOf i).toNat)
  case atStart => exact ⟨0, 1, [], Nat.zero_le _, by simp, rfl, hyl, (unhide HM).1, rfl, fun c hcc => (by cases hcc), rfl, (unhide HM).2⟩
  case round =>
    obtain ⟨j, p, ts, hj, rfl, rfl, hp, hown, hlen, h255, hrd, hB⟩ := hrel
    have hlen2 : ts.length ≤ 255 := by omega
    have HE := hide (And.intro hlen (And.intro h255 hrd))
    clear hlen h255 hrd
    by_cases hjl : j < N
    · have HC := hide (l6Cell_any b off cap y p wr ((unhide HA).below hB) (unhide HY) hp hl hc)
      have HO := hide (And.intro hown hB)
      clear hown hB
      go_wp2_with fail
      refine (unhide HC).mono ?_
      rintro e w2 ⟨c, q, rfl, hq, hb2⟩
      obtain ⟨hown, hB⟩ := unhide HO
      obtain ⟨hlen, h255, hrd⟩ := unhide HE
      have hown2 := hown.below hb2
      have hB2 := bstep hB hb2
      clear hown hB hb2
      rcases hq with ⟨rfl, hn⟩ | ⟨q', rfl, hpq, hqy, hcs, hsm⟩
      · have hfin := unhide HRn (rdN_none (n := j + 1) (by rw [rdN_snoc, hrd]; simp [hn]) (by omega))
        have hm := made_below w (w2.alloc (Obj.cells #[Value.int IntKind.i64 c.k, Value.int IntKind.i64 c.n, Value.string c.s] 59)) (bstep hB2 (cell_below _ _))
        rw [World.size_alloc] at hm
        have HF := hide (termS_no hfin hm.1 hm.2)
        clear hfin hm hown2 hB2 hn HE HO HC hlen h255 hrd
        go_wp2
        exact bodyPost_ret (v := .tuple #[.slice (some ⟨w2.heap.size + 1, 0, none⟩) 0 0, .int .i64 (-1)]) (by simp [results, Tryd.results35, go_sem]) rfl (unhide HF)
      · have hs2 : w.heap.size ≤ w2.heap.size := hB2.size
        obtain ⟨v', w3, hr, ho, hgr⟩ := app_oneC (w2.alloc (Obj.cells #[Value.int IntKind.i64 c.k, Value.int IntKind.i64 c.n, Value.string c.s] 59)) w.heap.size u6 ts c (World.ownsRow.alloc hown2 _) (by simp; omega) (by omega)
        have hB3 := hgr.below (World.ownsRow.alloc hown2 _) (by simp; omega)
        rw [World.size_alloc] at hr
        have HF := hide (show OwnC w3 w.heap.size v' (ts ++ [c]) ∧ (ts ++ [c]).length = j + 1 ∧ (∀ x ∈ ts ++ [c], x.s.size ≤ 255) ∧ rdN (j + 1) (y.drop 1) = some (ts ++ [c], y.drop q') ∧ Below w.heap.size w w3 from by
          refine ⟨ho, by simp [hlen], ?_, by rw [rdN_snoc, hrd]; simp [hsm], ?_⟩
          · intro x hx
            rcases List.mem_append.1 hx with hx | hx
            · exact h255 x hx
            · simp at hx; subst hx; exact hcs
          · exact (bstep hB2 (cell_below _ _)).trans hB3)
        clear ho hgr hown2 hB2 hsm hcs HE HO HC hlen h255 hrd hB3
        go_wp2
        go_roundw
        case rel => exact ⟨j + 1, q', ts ++ [c], by omega, by go_num, rfl, hqy, (unhide HF).1, (unhide HF).2.1, (unhide HF).2.2.1, (unhide HF).2.2.2.1, (unhide HF).2.2.2.2⟩
        case measure => simp [intOf]; omega
    · have hjn : j = N := by omega
      subst hjn
      obtain ⟨ao', cap', rfl, hrow⟩ := hown.shape
      have HTO := hide (specTrmOk_any ao' cap' ts wr (by unfold maxLen; omega) hrow (fun c hcc => by have := (unhide HE).2.1 c hcc; unfold maxLen; omega))
      have HO := hide (And.intro hown hB)
      clear hown hB hrow
      cases ht : trm ts with
      | true =>
        rw [ht] at HTO
        have hfin : rdT y = some (ts, y.drop p) := by rw [unhide HRd ts _ (unhide HE).2.2, ht]; rfl
        have hfin := hide hfin
        go_wp2_with fail
        refine (unhide HTO).mono ?_
        rintro e w2 ⟨rfl, hb2⟩
        have HF := hide (termS_yes (unhide hfin) hp ((unhide HO).1.below hb2) (bstep (unhide HO).2 hb2))
        clear hb2 HO HE
        go_wp2
        exact bodyPost_ret (v := .tuple #[.slice ao' ts.length cap', .int .i64 (p : Int)]) (by simp [results, Tryd.results35, go_sem]) rfl (unhide HF)
      | false =>
        rw [ht] at HTO
        have hfin : rdT y = none := by rw [unhide HRd ts _ (unhide HE).2.2, ht]; rfl
        have hfin := hide hfin
        go_wp2_with fail
        refine (unhide HTO).mono ?_
        rintro e w2 ⟨rfl, hb2⟩
        have hm := made_below w w2 (bstep (unhide HO).2 hb2)
        have HF := hide (termS_no (unhide hfin) hm.1 hm.2)
        clear hm hb2 HO HE
        go_wp2
        exact bodyPost_ret (v := .tuple #[.slice (some ⟨w2.heap.size, 0, none⟩) 0 0, .int .i64 (-1)]) (by simp [results, Tryd.results35, go_sem]) rfl (unhide HF)

set_option maxRecDepth 100000 in
set_option maxHeartbeats 1000000 in
theorem specTrmTake_any (ao : Option Addr) (cap : Nat) (y : List Int) (w : World) (hA : RowY w ao y) (hy : ByL y) (hl : y.length ≤ 1048576) (hc : y.length ≤ cap) :
    Calls Tryd.prog 10 #[.slice ao y.length cap] w (TakeOut w y) := by
  have HT : Hid (Calls Tryd.prog 35 #[.slice ao y.length cap, .int .i64 0] w (TermS w y)) := by
    show Calls _ _ _ _ _
    cases y with
    | nil => exact l6Term_nil ao cap w
    | cons k r =>
      rcases hA with h | ⟨b, off, rfl, hA⟩
      · cases h
      · exact l6Term_some b off cap k r w hA hy hl hc
  clear hA hy
  go_enter Tryd.func10, Tryd.ntmps10
  go_wp2_with fail
  refine (unhide HT).mono ?_
  rintro e w1 ⟨v, ts, q, rfl, hO, hq, hB⟩
  have hm := made_below w w1 hB
  rcases hq with ⟨rfl, rfl, hn⟩ | ⟨q', rfl, hqy, hs⟩
  · have HF := hide (takeOut_no (y := y) (show rdAll y = none by simp [rdAll, hn]) hm.1 hm.2)
    clear hO hB hn hm
    have hne : ¬ ((-1 : Int) = y.length) := by omega
    go_wp2
    exact bodyPost_ret (v := .tuple #[.slice (some ⟨w1.heap.size, 0, none⟩) 0 0, .bool false]) (by simp [results, Tryd.results10, go_sem]) rfl (unhide HF)
  · by_cases he : q' = y.length
    · have hd : y.drop q' = [] := by rw [he]; simp
      rw [hd] at hs
      have HF := hide (takeOut_yes (y := y) (show rdAll y = some ts by simp [rdAll, hs]) hO hB)
      clear hO hB hs hm hd
      subst he
      go_wp2
      exact bodyPost_ret (v := .tuple #[v, .bool true]) (by simp [results, Tryd.results10, go_sem]) rfl (unhide HF)
    · have hr : rdAll y = none := by
        cases hd : y.drop q' with
        | nil => have := congrArg List.length hd; simp at this; omega
        | cons a b => rw [hd] at hs; simp [rdAll, hs]
      have HF := hide (takeOut_no hr hm.1 hm.2)
      clear hO hB hs hm hr
      go_wp2
      exact bodyPost_ret (v := .tuple #[.slice (some ⟨w1.heap.size, 0, none⟩) 0 0, .bool false]) (by simp [results, Tryd.results10, go_sem]) rfl (unhide HF)
end Go.Proofs.YtjinbinnjpjniaaDoor
