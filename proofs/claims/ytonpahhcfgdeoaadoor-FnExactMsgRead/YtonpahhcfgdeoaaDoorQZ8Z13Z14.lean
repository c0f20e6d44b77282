import Derived.Test.YtonpahhcfgdeoaaDoorQZ5Z6Z9
import Derived.Test.YtonpahhcfgdeoaaDoorQZ15Z7
import Derived.Test.YtonpahhcfgdeoaaDoorQYB1YB2W2W3
import Derived.Test.YtonpahhcfgdeoaaDoorQYS1YX1YB4W6W14YB5YT0
/- The specification: terms out of bytes. -/
namespace Go.Proofs.YtonpahhcfgdeoaaDoor
open Go.RowKit
set_option linter.unusedVariables false
set_option linter.unusedSimpArgs false
attribute [-go_sem] Go.Builtin.append_

theorem l6Cell_any (b off cap : Nat) (y : List Int) (p : Nat) (w : World) (hA : AtY w b off y) (hy : ByL y) (hp : p ≤ y.length) (hl : y.length ≤ 1048576) (hc : y.length ≤ cap) :
    Calls Tryd.prog 27 #[.slice (some ⟨b, off, none⟩) y.length cap, .int .i64 p] w (CellS w y p) := by
  by_cases h : p + 4 ≤ y.length
  · exact l6Cell_long b off cap y p w hA hy h hl hc
  · exact l6Cell_short _ cap y p w (by omega) hp hl

/-- What the reading of a term comes to. -/
def TermS (w : World) (y : List Int) (e : Ending) (w' : World) : Prop :=
  ∃ (v : Value) (ts : List C) (q : Int), e = .returned (.tuple #[v, .int .i64 q]) ∧ OwnC w' w.heap.size v ts ∧
    ((q = -1 ∧ ts = [] ∧ rdT y = none) ∨ ∃ q' : Nat, q = q' ∧ q' ≤ y.length ∧ rdT y = some (ts, y.drop q')) ∧ Below w.heap.size w w'
theorem termS_no {w w' : World} {y : List Int} {v : Value} (h : rdT y = none) (hO : OwnC w' w.heap.size v []) (hB : Below w.heap.size w w') : TermS w y (.returned (.tuple #[v, .int .i64 (-1)])) w' := ⟨v, [], -1, rfl, hO, .inl ⟨rfl, rfl, h⟩, hB⟩
theorem termS_yes {w w' : World} {y : List Int} {v : Value} {ts : List C} {q : Nat} (h : rdT y = some (ts, y.drop q)) (hq : q ≤ y.length) (hO : OwnC w' w.heap.size v ts) (hB : Below w.heap.size w w') : TermS w y (.returned (.tuple #[v, .int .i64 q])) w' := ⟨v, ts, q, rfl, hO, .inr ⟨q, rfl, hq, h⟩, hB⟩
theorem made_noneC (w : World) (base : Nat) (hb : base ≤ w.heap.size) : OwnC (w.alloc (.cells #[] 55)) base (.slice (some ⟨w.heap.size, 0, none⟩) 0 0) [] := World.ownsRow_made w #[] 0 hb (by simp [maxLen]) rfl
theorem made_below (w W : World) (h : Below w.heap.size w W) : OwnC (W.alloc (.cells #[] 55)) w.heap.size (.slice (some ⟨W.heap.size, 0, none⟩) 0 0) [] ∧ Below w.heap.size w (W.alloc (.cells #[] 55)) := ⟨made_noneC W _ h.size, bstep h (cell_below _ _)⟩

set_option maxRecDepth 100000 in
set_option maxHeartbeats 1000000 in
theorem l6Term_nil (ao : Option Addr) (cap : Nat) (w : World) :
    Calls Tryd.prog 14 #[.slice ao 0 cap, .int .i64 0] w (TermS w []) := by
  have HF := hide (termS_no (y := []) rfl (made_below w w (Below.refl _ _)).1 (made_below w w (Below.refl _ _)).2)
  go_enter Tryd.func14, Tryd.ntmps14
  go_wp2
  exact bodyPost_ret (v := .tuple #[.slice (some ⟨w.heap.size, 0, none⟩) 0 0, .int .i64 (-1)]) (by simp [results, Tryd.results14, go_sem]) rfl (unhide HF)

set_option maxRecDepth 100000 in
set_option maxHeartbeats 4000000 in
theorem l6Term_some (b off cap : Nat) (k : Int) (r : List Int) (w : World) (hA : AtY w b off (k :: r)) (hy : ByL (k :: r)) (hl : (k :: r).length ≤ 1048576) (hc : (k :: r).length ≤ cap) :
    Calls Tryd.prog 14 #[.slice (some ⟨b, off, none⟩) (k :: r).length cap, .int .i64 0] w (TermS w (k :: r)) := by
  have hbl : b < w.heap.size := hA.lt (by simp)
  have d0 := hA 0 (by simp)
  have b0 := hy.get 0 (by simp)
  simp only [List.getElem_cons_zero, Nat.add_zero] at d0 b0
  obtain ⟨N, rfl⟩ := Int.eq_ofNat_of_zero_le b0.1
  have hN2 : N ≤ 255 := by omega
  obtain ⟨y, hy'⟩ : ∃ y, y = (N : Int) :: r := ⟨_, rfl⟩
  have hdr : y.drop 1 = r := by rw [hy']; rfl
  have hyl : 0 < y.length := by rw [hy']; simp
  have hne : ¬ y = [] := by rw [hy']; simp
  have HRd : Hid (∀ ts r', rdN N (y.drop 1) = some (ts, r') → rdT y = if trm ts then some (ts, r') else none) := by
    intro ts r' h
    rw [hdr] at h
    rw [hy']
    simp [rdT, h]
  have HRn : Hid (rdN N (y.drop 1) = none → rdT y = none) := by
    intro h
    rw [hdr] at h
    rw [hy']
    simp [rdT, h]
  rw [← hy'] at hA hy hl hc ⊢
  have HA := hide hA
  have HY := hide hy
  have hB1 := made_below w w (Below.refl _ _)
  have HM := hide hB1
  clear hA hy hy' hdr hB1
  go_enter Tryd.func14, Tryd.ntmps14
  go_wp2
  go_loopw [6, 7, 8] (fun tv pv i wr => ∃ (j p : Nat) (ts : List C), j ≤ N ∧ i = .int .i64 ((N : Int) - j) ∧ pv = .int .i64 p ∧ p ≤ y.length ∧ OwnC wr w.heap.size tv ts ∧ ts.length = j ∧ (∀ c ∈ ts, c.s.size ≤ 255) ∧ rdN j (y.drop 1) = some (ts, y.drop p) ∧ Below w.heap.size w wr) (fun _ _ i _ => (intOf i).toNat)
  case atStart => exact ⟨0, 1, [], Nat.zero_le _, by simp, rfl, hyl, (unhide HM).1, rfl, fun c hcc => (by cases hcc), rfl, (unhide HM).2⟩
  case round =>
    obtain ⟨j, p, ts, hj, rfl, rfl, hp, hown, hlen, h255, hrd, hB⟩ := hrel
    have hlen2 : ts.length ≤ 255 := by omega
    have HE := hide (And.intro hlen (And.intro h255 hrd))
    clear hlen h255 hrd
    by_cases hjl : j < N
    · have HC := hide (l6Cell_any b off cap y p wr ((unhide HA).below hB) (unhide HY) hp hl hc)
      have HO := hide (And.intro hown hB)
      clear hown hB
      go_wp2_with fail
      refine (unhide HC).mono ?_
      rintro e w2 ⟨c, q, rfl, hq, hb2⟩
      obtain ⟨hown, hB⟩ := unhide HO
      obtain ⟨hlen, h255, hrd⟩ := unhide HE
      have hown2 := hown.below hb2
      have hB2 := bstep hB hb2
      clear hown hB hb2
      rcases hq with ⟨rfl, hn⟩ | ⟨q', rfl, hpq, hqy, hcs, hsm⟩
      · have hfin := unhide HRn (rdN_none (n := j + 1) (by rw [rdN_snoc, hrd]; simp [hn]) (by omega))
        have hm := made_below w (w2.alloc (Obj.cells #[Value.int IntKind.i64 c.k, Value.int IntKind.i64 c.n, Value.string c.s] 55)) (bstep hB2 (cell_below _ _))
        rw [World.size_alloc] at hm
        have HF := hide (termS_no hfin hm.1 hm.2)
        clear hfin hm hown2 hB2 hn HE HO HC hlen h255 hrd
        go_wp2
        exact bodyPost_ret (v := .tuple #[.slice (some ⟨w2.heap.size + 1, 0, none⟩) 0 0, .int .i64 (-1)]) (by simp [results, Tryd.results14, go_sem]) rfl (unhide HF)
      · have hs2 : w.heap.size ≤ w2.heap.size := hB2.size
        obtain ⟨v', w3, hr, ho, hgr⟩ := app_oneC (w2.alloc (Obj.cells #[Value.int IntKind.i64 c.k, Value.int IntKind.i64 c.n, Value.string c.s] 55)) w.heap.size u6 ts c (World.ownsRow.alloc hown2 _) (by simp; omega) (by omega)
        have hB3 := hgr.below (World.ownsRow.alloc hown2 _) (by simp; omega)
        rw [World.size_alloc] at hr
        have HF := hide (show OwnC w3 w.heap.size v' (ts ++ [c]) ∧ (ts ++ [c]).length = j + 1 ∧ (∀ x ∈ ts ++ [c], x.s.size ≤ 255) ∧ rdN (j + 1) (y.drop 1) = some (ts ++ [c], y.drop q') ∧ Below w.heap.size w w3 from by
          refine ⟨ho, by simp [hlen], ?_, by rw [rdN_snoc, hrd]; simp [hsm], ?_⟩
          · intro x hx
            rcases List.mem_append.1 hx with hx | hx
            · exact h255 x hx
            · simp at hx; subst hx; exact hcs
          · exact (bstep hB2 (cell_below _ _)).trans hB3)
        clear ho hgr hown2 hB2 hsm hcs HE HO HC hlen h255 hrd hB3
        go_wp2
        go_roundw
        case rel => exact ⟨j + 1, q', ts ++ [c], by omega, by go_num, rfl, hqy, (unhide HF).1, (unhide HF).2.1, (unhide HF).2.2.1, (unhide HF).2.2.2.1, (unhide HF).2.2.2.2⟩
        case measure => simp [intOf]; omega
    · have hjn : j = N := by omega
      subst hjn
      obtain ⟨ao', cap', rfl, hrow⟩ := hown.shape
      have HTO := hide (specTrmOk_any ao' cap' ts wr (by unfold maxLen; omega) hrow (fun c hcc => by have := (unhide HE).2.1 c hcc; unfold maxLen; omega))
      have HO := hide (And.intro hown hB)
      clear hown hB hrow
      cases ht : trm ts with
      | true =>
        rw [ht] at HTO
        have hfin : rdT y = some (ts, y.drop p) := by rw [unhide HRd ts _ (unhide HE).2.2, ht]; rfl
        have hfin := hide hfin
        go_wp2_with fail
        refine (unhide HTO).mono ?_
        rintro e w2 ⟨rfl, hb2⟩
        have HF := hide (termS_yes (unhide hfin) hp ((unhide HO).1.below hb2) (bstep (unhide HO).2 hb2))
        clear hb2 HO HE
        go_wp2
        exact bodyPost_ret (v := .tuple #[.slice ao' ts.length cap', .int .i64 (p : Int)]) (by simp [results, Tryd.results14, go_sem]) rfl (unhide HF)
      | false =>
        rw [ht] at HTO
        have hfin : rdT y = none := by rw [unhide HRd ts _ (unhide HE).2.2, ht]; rfl
        have hfin := hide hfin
        go_wp2_with fail
        refine (unhide HTO).mono ?_
        rintro e w2 ⟨rfl, hb2⟩
        have hm := made_below w w2 (bstep (unhide HO).2 hb2)
        have HF := hide (termS_no (unhide hfin) hm.1 hm.2)
        clear hm hb2 HO HE
        go_wp2
        exact bodyPost_ret (v := .tuple #[.slice (some ⟨w2.heap.size, 0, none⟩) 0 0, .int .i64 (-1)]) (by simp [results, Tryd.results14, go_sem]) rfl (unhide HF)

end Go.Proofs.YtonpahhcfgdeoaaDoor

/- The specification: the body of a frame. -/
namespace Go.Proofs.YtonpahhcfgdeoaaDoor
open Go.RowKit
set_option linter.unusedVariables false
set_option linter.unusedSimpArgs false

/-- A frame's body, if these bytes are a frame. -/
def bdy (y : List Int) : Option (List Int) :=
  if 4 ≤ y.length ∧ y.length ≤ 1104 ∧ hiL (y.take 2) = (y.length : Int) - 4 ∧ hiL (y.drop (y.length - 2)) = sumL (y.take (y.length - 2)) then some ((y.drop 2).take (y.length - 4)) else none

def BodyS (w : World) (y : List Int) (e : Ending) (w' : World) : Prop :=
  (bdy y = none ∧ ∃ v, e = .returned (.tuple #[v, .bool false])) ∧ Below w.heap.size w w' ∨
  ∃ z ao cap, bdy y = some z ∧ e = .returned (.tuple #[.slice ao z.length cap, .bool true]) ∧ RowY w' ao z ∧ z.length ≤ cap ∧ Below w.heap.size w w'
theorem bodyS_no {w w' : World} {y : List Int} {v : Value} (h : bdy y = none) (hB : Below w.heap.size w w') : BodyS w y (.returned (.tuple #[v, .bool false])) w' := .inl ⟨⟨h, v, rfl⟩, hB⟩
theorem bodyS_yes {w w' : World} {y z : List Int} {ao : Option Addr} {n cap : Nat} (h : bdy y = some z) (hn : n = z.length) (hr : RowY w' ao z) (hc : z.length ≤ cap) (hB : Below w.heap.size w w') : BodyS w y (.returned (.tuple #[.slice ao n cap, .bool true])) w' := .inr ⟨z, ao, cap, h, by rw [hn], hr, hc, hB⟩

set_option maxRecDepth 100000 in
set_option maxHeartbeats 2000000 in
theorem l6Body_far (ao : Option Addr) (cap : Nat) (y : List Int) (w : World) (hl : y.length ≤ 1048576) (h : y.length < 4 ∨ 1104 < y.length) :
    Calls Tryd.prog 12 #[.slice ao y.length cap] w (BodyS w y) := by
  have HB := hide (show bdy y = none from by unfold bdy; rw [if_neg (by omega)])
  rcases h with h | h
  · have hg1 : decide ((y.length : Int) - 4 < 0) = true := by simp; omega
    clear h
    go_enter Tryd.func12, Tryd.ntmps12
    go_wp2
    go_quiet (fail)
    go_wp2
    exact bodyPost_ret (v := .tuple #[.slice (some ⟨w.heap.size, 0, none⟩) 0 0, .bool false]) (by simp [results, Tryd.results12, go_sem, World.drewN]) rfl (bodyS_no (unhide HB) (bstep (belowDrewN w _) (cell_below _ _)))
  · have hg1 : decide ((y.length : Int) - 4 < 0) = false := by simp; omega
    have hg2 : decide (1100 < (y.length : Int) - 4) = true := by simp; omega
    clear h
    go_enter Tryd.func12, Tryd.ntmps12
    go_wp2
    go_quiet (fail)
    go_wp2
    exact bodyPost_ret (v := .tuple #[.slice (some ⟨w.heap.size, 0, none⟩) 0 0, .bool false]) (by simp [results, Tryd.results12, go_sem, World.drewN]) rfl (bodyS_no (unhide HB) (bstep (belowDrewN w _) (cell_below _ _)))

theorem hiL_two (a b : Int) : hiL [a, b] = a * 256 + b := by simp [hiL]
theorem take_two {y : List Int} (h : 4 ≤ y.length) : y.take 2 = [y[0], y[1]] := by
  match y, h with
  | a :: b :: c :: d :: r, _ => rfl
theorem last_two {y : List Int} {m : Nat} (h : y.length = m + 2) : y.drop m = [y[m], y[m + 1]] := by
  rw [List.drop_eq_getElem_cons (by omega), List.drop_eq_getElem_cons (by omega), List.drop_eq_nil_of_le (by omega)]

set_option maxRecDepth 100000 in
set_option maxHeartbeats 4000000 in
theorem l6Body_head (b off cap : Nat) (y : List Int) (w : World) (hA : AtY w b off y) (hy : ByL y) (h4 : 4 ≤ y.length) (h5 : y.length ≤ 1104) (hne : hiL (y.take 2) ≠ (y.length : Int) - 4) :
    Calls Tryd.prog 12 #[.slice (some ⟨b, off, none⟩) y.length cap] w (BodyS w y) := by
  have HB := hide (show bdy y = none from by unfold bdy; rw [if_neg (fun h => hne h.2.2.1)])
  rw [take_two h4, hiL_two] at hne
  have d0 := hA 0 (by omega)
  have d1 := hA 1 (by omega)
  have b0 := hy.get 0 (by omega)
  have b1 := hy.get 1 (by omega)
  obtain ⟨a, ha⟩ : ∃ a, a = y[0] := ⟨_, rfl⟩
  obtain ⟨c, hc⟩ : ∃ c, c = y[1] := ⟨_, rfl⟩
  rw [← ha] at d0 b0 hne
  rw [← hc] at d1 b1 hne
  rw [Nat.add_zero] at d0
  clear ha hc hA hy
  have hbb : (a * 256 + c != (y.length : Int) - 4) = true := by rw [bne_iff_ne]; exact hne
  have hg1 : decide ((y.length : Int) - 4 < 0) = false := by simp; omega
  have hg2 : decide (1100 < (y.length : Int) - 4) = false := by simp; omega
  go_enter Tryd.func12, Tryd.ntmps12
  go_wp2
  go_quiet (fail)
  go_wp2
  exact bodyPost_ret (v := .tuple #[.slice (some ⟨w.heap.size, 0, none⟩) 0 0, .bool false]) (by simp [results, Tryd.results12, go_sem, World.drewN]) rfl (bodyS_no (unhide HB) (bstep (belowDrewN w _) (cell_below _ _)))
end Go.Proofs.YtonpahhcfgdeoaaDoor

/- The specification: the body of a frame, its sum. -/
namespace Go.Proofs.YtonpahhcfgdeoaaDoor
open Go.RowKit
set_option linter.unusedVariables false
set_option linter.unusedSimpArgs false

set_option maxRecDepth 100000 in
set_option maxHeartbeats 4000000 in
theorem l6Body_sum (b off cap m : Nat) (y : List Int) (w : World) (hA : AtY w b off y) (hy : ByL y) (hm : y.length = m + 4) (h5 : m ≤ 1100) (hc : y.length ≤ cap) (hhd : hiL (y.take 2) = (y.length : Int) - 4) :
    Calls Tryd.prog 12 #[.slice (some ⟨b, off, none⟩) y.length cap] w (BodyS w y) := by
  have h4 : 4 ≤ y.length := by omega
  have k0 : 0 < y.length := by omega
  have k1 : 1 < y.length := by omega
  have k2 : m + 2 < y.length := by omega
  have k3 : m + 3 < y.length := by omega
  have k4 : m + 2 + 1 < y.length := by omega
  have kl : y.length = m + 2 + 2 := by omega
  have hh : y[0]'k0 * (256 : Int) + y[1]'k1 = (y.length : Int) - 4 := by
    have h' := hhd
    rw [take_two h4, hiL_two] at h'
    exact h'
  have d0 := hA 0 k0
  have d1 := hA 1 k1
  have d2 := hA (m + 2) k2
  have d3 := hA (m + 3) k3
  have b0 := hy.get 0 k0
  have b1 := hy.get 1 k1
  have b2 := hy.get (m + 2) k2
  have b3 := hy.get (m + 3) k3
  have hls := last_two (y := y) (m := m + 2) kl
  obtain ⟨a, ha⟩ : ∃ a, a = y[0]'k0 := ⟨_, rfl⟩
  obtain ⟨c, hcc⟩ : ∃ c, c = y[1]'k1 := ⟨_, rfl⟩
  obtain ⟨d, hd⟩ : ∃ d, d = y[m + 2]'k2 := ⟨_, rfl⟩
  obtain ⟨e, he⟩ : ∃ e, e = y[m + 3]'k3 := ⟨_, rfl⟩
  have he' : y[m + 2 + 1]'k4 = e := by rw [he]
  rw [he', ← hd] at hls
  rw [← ha] at d0 b0 hh
  rw [← hcc] at d1 b1 hh
  rw [← hd] at d2 b2
  rw [← he] at d3 b3
  rw [Nat.add_zero] at d0
  obtain ⟨s, hs⟩ : ∃ s, s = sumL (y.take (m + 2)) := ⟨_, rfl⟩
  have hsi : 0 ≤ s ∧ s ≤ 65520 := by rw [hs]; exact sumL_in _
  have HM := hide (show ∀ n : Nat, Calls Tryd.prog 26 #[.slice (some ⟨b, off, none⟩) (m + 2) cap] (w.drewN n) fun e w' => e = .returned (.int .i64 s) ∧ w' = w.drewN n from fun n => by
    have := specMsgSum_any (some ⟨b, off, none⟩) cap (y.take (m + 2)) (w.drewN n) (by unfold maxLen; simp; omega) (.of_at (hA.take (m + 2))) (hy.take _)
    rw [← hs, show (y.take (m + 2)).length = m + 2 by simp; omega] at this
    exact this)
  have HB := hide (show bdy y = if d * 256 + e = s then some ((y.drop 2).take m) else none from by
    unfold bdy
    rw [show y.length - 2 = m + 2 by omega, show y.length - 4 = m by omega, hls, hiL_two, ← hs]
    by_cases h : d * 256 + e = s
    · rw [if_pos h, if_pos ⟨by omega, by omega, hhd, h⟩]
    · rw [if_neg h, if_neg (fun x => h x.2.2.2)])
  have HRow := hide (show RowY w (some ⟨b, off + 2, none⟩) ((y.drop 2).take m) from .of_at ((hA.drop 2).take m))
  have hzl : ((y.drop 2).take m).length = m := by simp; omega
  have HZL := hide hzl
  rw [hm] at hh hc ⊢
  clear ha hcc hd he he' hs hls hhd hA hy hzl h4 k0 k1 k2 k3 k4 kl
  have hh2 : a * 256 + c = m := by omega
  have hbb : (a * 256 + c != (m : Int)) = false := by rw [bne_eq_false_iff_eq]; exact hh2
  have hg1 : decide ((m : Int) < 0) = false := by simp
  have hg2 : decide (1100 < (m : Int)) = false := by simp; omega
  clear hh hh2
  go_enter Tryd.func12, Tryd.ntmps12
  go_wp2
  go_quiet (fail)
  go_wp2_with fail
  refine (unhide HM _).mono ?_
  rintro e0 w1 ⟨rfl, rfl⟩
  have hcap : ¬ cap = 2 := by omega
  by_cases hdd : d = s / 256
  · have hb1 : (d != s / 256) = false := by rw [bne_eq_false_iff_eq]; exact hdd
    by_cases hee : e = s % 256
    · have hb2 : (e != s % 256) = false := by rw [bne_eq_false_iff_eq]; exact hee
      have HY := hide (show bdy y = some ((y.drop 2).take m) from by rw [unhide HB, if_pos (by omega)])
      clear hdd hee HB
      go_wp2
      exact bodyPost_ret (v := .tuple #[.slice (some ⟨b, off + 2, none⟩) m (cap - 2), .bool true]) (by simp [results, Tryd.results12, go_sem, *]) rfl (bodyS_yes (unhide HY) (unhide HZL).symm (unhide HRow) (by rw [unhide HZL]; omega) (belowDrewN w _))
    · have hb2 : (e != s % 256) = true := by rw [bne_iff_ne]; exact hee
      have HN := hide (show bdy y = none from by rw [unhide HB, if_neg (by omega)])
      clear hdd hee HB
      go_wp2
      exact bodyPost_ret (v := .tuple #[.slice (some ⟨w.heap.size, 0, none⟩) 0 0, .bool false]) (by simp [results, Tryd.results12, go_sem, World.drewN]) rfl (bodyS_no (unhide HN) (bstep (belowDrewN w _) (cell_below _ _)))
  · have hb1 : (d != s / 256) = true := by rw [bne_iff_ne]; exact hdd
    have HN := hide (show bdy y = none from by rw [unhide HB, if_neg (by omega)])
    clear hdd HB
    go_wp2
    exact bodyPost_ret (v := .tuple #[.slice (some ⟨w.heap.size, 0, none⟩) 0 0, .bool false]) (by simp [results, Tryd.results12, go_sem, World.drewN]) rfl (bodyS_no (unhide HN) (bstep (belowDrewN w _) (cell_below _ _)))

theorem l6Body_any (ao : Option Addr) (cap : Nat) (y : List Int) (w : World) (hA : RowY w ao y) (hy : ByL y) (hl : y.length ≤ 1048576) (hc : y.length ≤ cap) :
    Calls Tryd.prog 12 #[.slice ao y.length cap] w (BodyS w y) := by
  by_cases h : y.length < 4 ∨ 1104 < y.length
  · exact l6Body_far ao cap y w hl h
  · rcases hA with rfl | ⟨b, off, rfl, hA⟩
    · exact l6Body_far ao cap [] w hl (.inl (by simp))
    · by_cases hh : hiL (y.take 2) = (y.length : Int) - 4
      · exact l6Body_sum b off cap (y.length - 4) y w hA hy (by omega) (by omega) hc hh
      · exact l6Body_head b off cap y w hA hy (by omega) (by omega) hh
end Go.Proofs.YtonpahhcfgdeoaaDoor
