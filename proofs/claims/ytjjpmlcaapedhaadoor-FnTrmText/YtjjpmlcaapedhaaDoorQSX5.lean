/- The specification's reader of texts: TrmRead. -/
import Derived.Test.YtjjpmlcaapedhaaDoorQSX4
import Derived.Deep.RegionWith
import Derived.Deep.CutRange
namespace Go.Proofs.YtjjpmlcaapedhaaDoor
open Go.RowKit
set_option linter.unusedVariables false
set_option linter.unusedSimpArgs false
attribute [-go_sem] Go.Builtin.append_

/-- The run of an append of one place. -/
theorem app_oneP (w : World) (base : Nat) (v : Value) (t : List C) (c : C) (hO : OwnC w base v t) (hb : base ≤ w.heap.size) (hl : t.length ≤ 1048576) :
    ∃ v' w', (Builtin.append_ #[23, 23] 23 #[v, .slice (some ⟨w.heap.size, 0, none⟩) 1 1]).run Tryd.prog (w.alloc (.cells #[.int .i64 c.k, .int .i64 c.n, .string c.s] 49)) = .ok v' w' ∧ OwnC w' base v' (t ++ [c]) ∧ w.grownBy w' v.ownBlock := by
  obtain ⟨i0, hi, hz0, hz1, hz2⟩ := info_parts Tryd.infoCell
  obtain ⟨g, cap, w1, hr, ho, hg, hat, _⟩ := run_append_lies (P := Tryd.prog) (w.alloc (.cells #[.int .i64 c.k, .int .i64 c.n, .string c.s] 49)) 23 23 base 49 i0 _ 3 32 Tryd.underlying23 hi hz0 hz1 hz2 rfl (by decide) v t.length _ (World.ownsRow.alloc hO _) ⟨w.heap.size, 0, none⟩ 1 1 [.int .i64 c.k, .int .i64 c.n, .string c.s] rfl (fun j u hj => cell_three_new w _ _ _ 49 j u hj) (by intro u hu; simp at hu; rcases hu with rfl | rfl | rfl <;> rfl) (by omega) (by unfold maxLen; omega) (by omega) (by simp; omega) _ rfl
  refine ⟨_, _, hr, ?_, ?_⟩
  · unfold OwnC
    rw [show (t ++ [c]).length = t.length + 1 by simp, flat_append]
    exact ho
  · exact grown_trans (grown_below (cell_below _ _)) hg

/-- The run of an append of one number. -/
theorem app_oneN (w : World) (base : Nat) (v : Value) (z : List Int) (x : Int) (hO : OwnI w base v z) (hb : base ≤ w.heap.size) (hl : z.length ≤ 1048576) :
    ∃ v' w', (Builtin.append_ #[47, 47] 47 #[v, .slice (some ⟨w.heap.size, 0, none⟩) 1 1]).run Tryd.prog (w.alloc (.cells #[.int .i64 x] 3)) = .ok v' w' ∧ OwnI w' base v' (z ++ [x]) ∧ w.grownBy w' v.ownBlock := by
  obtain ⟨i0, hi, hz0, hz1, hz2⟩ := info_parts Tryd.infoInt
  obtain ⟨g, cap, w1, hr, ho, hg, hat, _⟩ := run_append_lies (P := Tryd.prog) (w.alloc (.cells #[.int .i64 x] 3)) 47 47 base 3 i0 _ 1 8 Tryd.underlying47 hi hz0 hz1 hz2 rfl (by decide) v z.length _ (World.ownsRow.alloc hO _) ⟨w.heap.size, 0, none⟩ 1 1 [.int .i64 x] rfl (cell_one_new _ _ _) (by intro u hu; simp at hu; subst hu; rfl) (by omega) (by unfold maxLen; omega) (by omega) (by simp; omega) _ rfl
  refine ⟨_, _, hr, ?_, ?_⟩
  · unfold OwnI
    rw [show (z ++ [x]).length = z.length + 1 by simp, show nums (z ++ [x]) = nums z ++ [.int .i64 x] by simp [nums]]
    exact ho
  · exact grown_trans (grown_below (cell_below _ _)) hg

/-- What the reader keeps behind a place's word. -/
def Bumped (w : World) (l : List UInt8) (c : C) (t : List C) (op : List Nat) (o : Value) (v cb : Value) (wx : World) : Prop :=
  ∃ k, cb = .pointer (some ⟨k, 0, none⟩) ∧ (∀ b, v.ownBlock = some b → b < k) ∧ wx.cell? ⟨k, 0, none⟩ = some (.int .i64 c.k) ∧ wx.cell? ⟨k, 1, none⟩ = some (.int .i64 c.n) ∧ wx.cell? ⟨k, 2, none⟩ = some (.string c.s) ∧ OwnC wx w.heap.size v (bump t op) ∧ OwnI wx w.heap.size o (op.map Int.ofNat) ∧ Below w.heap.size w wx

/-- How the reader stands. -/
def SpR (l : List UInt8) (w : World) (RES : Option (List C)) (v o i : Value) (wr : World) : Prop := ∃ (j : Nat) (t : List C) (op : List Nat) (v' o' : Value), v' = v ∧ o' = o ∧ i = .int .i64 j ∧ j ≤ l.length ∧ OwnC wr w.heap.size v' t ∧ OwnI wr w.heap.size o' (op.map Int.ofNat) ∧ t.length ≤ 40 ∧ (∀ x ∈ op, x < t.length) ∧ op.length ≤ t.length ∧ (∀ c ∈ t, -100000 ≤ c.n ∧ c.n ≤ 100000 + t.length ∧ c.s.size ≤ l.length) ∧ spRun (40 - t.length) (l.drop j) t op = RES ∧ Below w.heap.size w wr

/-- Brackets that close. -/
def SpC (l : List UInt8) (w wc : World) (t : List C) (io : Option Addr) (ic : Nat) (op : List Nat) (j2 : Nat) (o a : Value) : Prop :=
  ∃ (m3 j3 : Nat) (op3 : List Nat), o = .slice io m3 ic ∧ m3 = op3.length ∧ a = .int .i64 j3 ∧ j3 ≤ l.length ∧ (∀ x ∈ op3, x < t.length) ∧ op3.length ≤ t.length ∧ OwnI wc w.heap.size (.slice io m3 ic) (op3.map Int.ofNat) ∧ spClose (l.drop j3) op3 = spClose (l.drop j2) op

theorem read_no {l : List UInt8} {w w' : World} {v : Value} (h : rdX l = none) (hO : OwnC w' w.heap.size v []) (hb : Below w.heap.size w w') : ReadOut l w (.returned (.tuple #[v, .bool false])) w' := by
  refine ⟨v, by rw [h]; rfl, ?_, hb⟩
  rw [h]
  exact hO
theorem read_yes {l : List UInt8} {w w' : World} {v : Value} {t : List C} (h : rdX l = some t) (hO : OwnC w' w.heap.size v t) (hb : Below w.heap.size w w') : ReadOut l w (.returned (.tuple #[v, .bool true])) w' := by
  refine ⟨v, by rw [h]; rfl, ?_, hb⟩
  rw [h]
  exact hO

theorem bumped_set {w W : World} {l : List UInt8} {c : C} {t : List C} {op : List Nat} {o : Value} {x g k cap : Nat} (hx : x < t.length) (hg : g < k) (hb : w.heap.size ≤ g)
    (c0 : W.cell? ⟨k, 0, none⟩ = some (.int .i64 c.k)) (c1 : W.cell? ⟨k, 1, none⟩ = some (.int .i64 c.n)) (c2 : W.cell? ⟨k, 2, none⟩ = some (.string c.s))
    (hO : OwnC W w.heap.size (.slice (some ⟨g, 0, none⟩) t.length cap) t) (hI : OwnI W w.heap.size o ((op ++ [x]).map Int.ofNat)) (hB : Below w.heap.size w W) :
    Bumped w l c t (op ++ [x]) o (.slice (some ⟨g, 0, none⟩) t.length cap) (.pointer (some ⟨k, 0, none⟩)) (W.setCell ⟨g, x * 3 + 1, none⟩ (.int .i64 (t[x].n + 1))).drew := by
  obtain ⟨h1, h2⟩ := ownC_bump (op := op) hx hO hI
  have hk : (W.setCell ⟨g, x * 3 + 1, none⟩ (.int .i64 (t[x].n + 1))).heap[k]? = W.heap[k]? := Below.heap_setCell _ _ _ _ (by show k ≠ g; omega)
  exact ⟨k, rfl, fun b e => (by have : g = b := by simpa [Value.ownBlock] using e
                                omega), (World.cell?_of_block (a := ⟨k, 0, none⟩) hk).trans c0, (World.cell?_of_block (a := ⟨k, 1, none⟩) hk).trans c1, (World.cell?_of_block (a := ⟨k, 2, none⟩) hk).trans c2, h1, h2, (hB.setCell (p := ⟨g, x * 3 + 1, none⟩) hb _).drew⟩

set_option maxRecDepth 100000 in
set_option maxHeartbeats 4000000 in
theorem specTrmRead_any (l : List UInt8) (w : World) (hl : l.length ≤ 1000000000) :
    Calls Tryd.prog 8 #[.string (mkS l)] w (ReadOut l w) := by
  have hs := mkS_size l
  obtain ⟨RES, hRES⟩ : ∃ R, R = spRun 40 l [] [] := ⟨_, rfl⟩
  have hO0 : OwnC ((w.alloc (.cells #[] 49)).alloc (.cells #[] 3)) w.heap.size (.slice (some ⟨w.heap.size, 0, none⟩) 0 0) [] := World.ownsRow.alloc (World.ownsRow_made w #[] 0 (Nat.le_refl _) (by simp [maxLen]) rfl) _
  have hI0 : OwnI ((w.alloc (.cells #[] 49)).alloc (.cells #[] 3)) w.heap.size (.slice (some ⟨w.heap.size + 1, 0, none⟩) 0 0) [] := own_lo (by
    have := World.ownsRow_made (w.alloc (.cells #[] 49)) (e := 3) (size := 1) #[] 0 (Nat.le_refl _) (by simp [maxLen]) rfl
    rw [World.size_alloc] at this
    exact this) (fun k e => by simp [Value.ownBlock] at e; omega)
  have HR0 := hide hRES
  clear hRES
  go_enter Tryd.func8, Tryd.ntmps8
  go_wp2
  go_loopw [4, 5, 6] (fun v o i wr => SpR l w RES v o i wr) (fun v _ _ _ => 40 - (lenVx v))
  case atStart => exact ⟨0, [], [], _, _, rfl, rfl, rfl, Nat.zero_le _, hO0, hI0, by simp, by simp, by simp, by simp, (unhide HR0).symm, (cell_below _ _).trans (cell_below _ _ |>.mono (by simp))⟩
  case round =>
    obtain ⟨j, t, op, v, o, rfl, rfl, rfl, hj, hO, hI, ht, hop, hol, hcs, hrun, hB⟩ := hrel
    clear hO0 hI0
    obtain ⟨ao, cap, rfl, hR⟩ := hO.shape
    by_cases hmore : j < l.length ∧ t.length < 40
    · obtain ⟨hj1, ht1⟩ := hmore
      have HT := hide (l1Take_any l j hj1 hl wr)
      have HO := hide hO
      have HI := hide hI
      have HB := hide hB
      have HOL := hide hol
      have HC := hide (And.intro hop (And.intro hcs hrun))
      clear hO hI hB hop hcs hrun hR
      go_upto_region 6 with fail
      refine (unhide HT).mono ?_
      rintro e w2 ⟨c, j2, rfl, hjj, hj2, hsw, hb2⟩
      have HSW := hide hsw
      clear hsw HT
      by_cases hkj : j2 ≤ j
      · obtain ⟨hop, hcs, hrun⟩ := unhide HC
        obtain ⟨f, hf⟩ : ∃ f, 40 - t.length = f + 1 := ⟨39 - t.length, by omega⟩
        rw [hf, run_stop hj1 (unhide HSW) hjj hkj] at hrun
        have hb3 := bstep (bstep (unhide HB) hb2) (cell_below w2 (.cells #[.int .i64 c.k, .int .i64 c.n, .string c.s] 49))
        have hnew := World.ownsRow_made (w2.alloc (.cells #[.int .i64 c.k, .int .i64 c.n, .string c.s] 49)) (e := 49) (size := 3) #[] 0 hb3.size (by simp [maxLen]) rfl
        rw [World.size_alloc] at hnew
        have FIN := hide (read_no (rdX_run_none ((unhide HR0).symm.trans hrun.symm)) hnew (bstep hb3 (cell_below _ _)))
        clear hop hcs hrun hnew hb3 HC HB HO HI HSW HR0
        go_wp2
        go_ret2
        exact unhide FIN
      · have HI0 := unhide HI
        have hol2 : op.length ≤ 40 := by omega
        obtain ⟨m, hm⟩ : ∃ m, m = op.length := ⟨_, rfl⟩
        obtain ⟨io, ic, rfl⟩ : ∃ io ic, o = .slice io m ic := by
          rcases HI0.2 with ⟨e, hn⟩ | ⟨g, cp, cur, e, _⟩
          · have : m = 0 := by rw [hm]; simpa using hn
            subst this
            exact ⟨none, 0, by rw [e]⟩
          · exact ⟨some ⟨g, 0, none⟩, cp, by rw [e, hm]; simp⟩
        have HM := hide hm
        have hm40 : m ≤ 40 := by omega
        clear HI0 hol hol2 hm
        go_upto_if 32 with fail
        go_cut [4, 5, 6, 7, 8] from 11 to 114 (fun v1 o1 a1 cb k1 wx => o1 = .slice io m ic ∧ a1 = .int .i64 j ∧ k1 = .int .i64 j2 ∧ Bumped w l c t op (.slice io m ic) v1 cb wx)
        case first =>
          have hm := unhide HM
          have hO2 := own_below (unhide HO) hb2
          have hI2 := own_below (unhide HI) hb2
          have hB2 := bstep (unhide HB) hb2
          have hb3 := cell_below w2 (.cells #[.int .i64 c.k, .int .i64 c.n, .string c.s] 49)
          have HK := hide (And.intro (cell_three_new w2 (.int .i64 c.k) (.int .i64 c.n) (.string c.s) 49) (bstep hB2 hb3))
          by_cases hz : m = 0
          · have hz0 : op = [] := List.length_eq_zero_iff.1 (by omega)
            have FIN : Hid (Bumped w l c t op (.slice io m ic) (.slice ao t.length cap) (.pointer (some ⟨w2.heap.size, 0, none⟩)) (w2.alloc (.cells #[.int .i64 c.k, .int .i64 c.n, .string c.s] 49))) := by
              refine ⟨w2.heap.size, rfl, fun b e => (World.ownsRow.lt hO2 b e).2, (unhide HK).1 0 _ rfl, (unhide HK).1 1 _ rfl, (unhide HK).1 2 _ rfl, ?_, World.ownsRow.alloc hI2 _, (unhide HK).2⟩
              rw [hz0, bump_nil]
              exact World.ownsRow.alloc hO2 _
            have hd : decide (0 < m) = false := by simp; omega
            clear hO2 hI2 hB2 hb3 hz0 HK hm hz
            rw [hd]
            go_wp2_with fail
            go_meet
            exact ⟨rfl, rfl, rfl, unhide FIN⟩
          · obtain ⟨op', x, rfl⟩ : ∃ op' x, op = op' ++ [x] := ⟨op.dropLast, op.getLast (fun e => hz (by rw [hm, e]; rfl)), (List.dropLast_concat_getLast _).symm⟩
            obtain ⟨hop, hcs, _⟩ := unhide HC
            have hxl := hop x (by simp)
            have hn := hcs t[x] (List.getElem_mem hxl)
            obtain ⟨m, rfl⟩ : ∃ k, m = k + 1 := ⟨m - 1, by omega⟩
            have hm' : m = (op'.map Int.ofNat).length := by simp at hm ⊢; omega
            have hI3 : OwnI w2 w.heap.size (.slice io ((op'.map Int.ofNat).length + 1) ic) (op'.map Int.ofNat ++ [(x : Int)]) := by rw [← hm']; have := hI2; rw [List.map_append] at this; exact this
            obtain ⟨gi, rfl, hgi, di2, fi2, hci⟩ := ownI_top hI3
            rw [← hm'] at di2 fi2 hci
            obtain ⟨g, cp, hv, hgb, hgl2, hcp⟩ := own_some hO2 (by omega)
            injection hv with e1 _ e3
            subst e1
            subst e3
            obtain ⟨c0, n0, s0, k0, k1, k2⟩ := own_place hO2 hxl
            have e1 : ((m : Int) + 1 - 1) = (m : Int) := by omega
            have hi0 : m < m + 1 := by omega
            have hm1 : m ≤ 1000 := by omega
            have wq1 : IntKind.i64.wrap ((m : Int) + 1 - 1) = (m : Int) := by simp [IntKind.wrap, IntKind.bits, IntKind.signed]; omega
            have wq2 : IntKind.i64.wrap (m : Int) = (m : Int) := by simp [IntKind.wrap, IntKind.bits, IntKind.signed]; omega
            have i1 : (0 : Int) ≤ (m : Int) := by omega
            have i2 : (m : Int) < (m : Int) + 1 := by omega
            have i3 : (m : Int) < ((m + 1 : Nat) : Int) := by omega
            have i4 : (0 : Int) ≤ (x : Int) := by omega
            have i5 : (x : Int) < (t.length : Int) := by omega
            have di3 := (hb3.cell (p := ⟨gi, m, none⟩) (World.block_lt_of_cell? w2 ⟨_, _, none⟩ di2)).trans di2
            have n3 := (hb3.cell (p := ⟨g, x * 3 + 1, none⟩) hgl2).trans n0
            have f3 := (hb3.frozen (p := ⟨g, x * 3 + 1, none⟩) hgl2).trans k1
            have wn : IntKind.i64.wrap (t[x].n + 1) = t[x].n + 1 := by simp [IntKind.wrap, IntKind.bits, IntKind.signed]; omega
            have hO3 := World.ownsRow.alloc hO2 (.cells #[.int .i64 c.k, .int .i64 c.n, .string c.s] 49)
            have hI4 := World.ownsRow.alloc hI2 (.cells #[.int .i64 c.k, .int .i64 c.n, .string c.s] 49)
            have FINX := hide (bumped_set (l := l) (c := c) (op := op') hxl hgl2 hgb ((unhide HK).1 0 _ rfl) ((unhide HK).1 1 _ rfl) ((unhide HK).1 2 _ rfl) hO3 hI4 (unhide HK).2)
            generalize t[x].n = nx at n3 wn n0 FINX
            generalize w2.alloc (.cells #[.int .i64 c.k, .int .i64 c.n, .string c.s] 49) = w3 at *
            have di4 : w3.drew.cell? ⟨gi, m, none⟩ = some (.int .i64 x) := di3
            have n4 : w3.drew.cell? ⟨g, x * 3 + 1, none⟩ = some (.int .i64 nx) := n3
            have f4 : w3.drew.frozen? ⟨g, x * 3 + 1, none⟩ = false := f3
            have hd : decide (0 < m + 1) = true := by simp
            rw [hd]
            clear HK hO3 hI4 hop hcs hn hm hm' hI3 hI2 hO2 hB2 di2 n0 k1 c0 s0 k0 k2 fi2 hci hcp hz hd
            go_wp2_with fail
            go_region_with (fail)
            all_goals go_wp2_with fail
            all_goals go_meet
            all_goals exact ⟨rfl, rfl, rfl, unhide FINX⟩
        case rest =>
          obtain ⟨rfl, rfl, rfl, hbm⟩ := hcut
          obtain ⟨kb, rfl, hkn, d0, d1, d2, hO1, hI1, hB1⟩ := hbm
          have hbl : (bump t op).length = t.length := bump_len t op
          have hO1' : OwnC wc w.heap.size u4 (bump t op) := hO1
          obtain ⟨v', w4, hr, hO4, hg4⟩ := app_oneP wc w.heap.size u4 (bump t op) c hO1 hB1.size (by rw [hbl]; omega)
          have hI4 : OwnI w4 w.heap.size (.slice io m ic) (op.map Int.ofNat) := own_other hI1 hg4 (own_types4 hO1 hI1 (by decide))
          have hB4 : Below w.heap.size w w4 := hB1.grown hg4 hB1.size (fun k e => (World.ownsRow.lt hO1 k e).1)
          have hkb : kb < wc.heap.size := World.block_lt_of_cell? wc ⟨_, _, none⟩ d0
          have d4 : w4.cell? ⟨kb, 0, none⟩ = some (.int .i64 c.k) := (World.cell?_of_block (a := ⟨kb, 0, none⟩) (hg4.block kb hkb (fun e => absurd (hkn kb e.symm) (Nat.lt_irrefl _)))).trans d0
          have HO4 := hide (And.intro hO4 (And.intro hI4 hB4))
          clear hO1 hO1' hI1 hB1 hO4 hI4 hB4 hg4 hkn hkb
          go_upto_region 12 with fail
          clear d0 d1 d2 hr
          go_cut [4, 5, 6, 72] from 11 to 114 (fun v1 o1 a1 cn wx => v1 = v' ∧ o1 = .slice io m ic ∧ a1 = .int .i64 j2 ∧ cn = .bool (decide (c.k = 3 ∧ (l.drop j2).head? = some 40)) ∧ wx = w4)
          case first =>
            by_cases hk3 : c.k = 3
            · have hkb : (c.k == 3) = true := by simpa using hk3
              by_cases hjl : j2 < l.length
              · have hh := head_at hjl
                have hget2 : (mkS l)[j2]'(by rw [hs]; exact hjl) = l[j2] := by
                  show (mkS l).data[j2]'_ = _
                  simp [mkS]
                generalize l[j2] = b at hh hget2
                by_cases h40 : (b.toNat : Int) = 40
                · have hbb : ((b.toNat : Int) == 40) = true := by simpa using h40
                  have hb : b = 40 := UInt8.toNat_inj.1 (by rw [show (40 : UInt8).toNat = 40 from rfl]; omega)
                  have HD : Hid (decide (c.k = 3 ∧ (l.drop j2).head? = some 40) = true) := by show _ = _; rw [hh, hb]; simp [hk3]
                  clear hh hb
                  go_wp2
                  go_meet
                  exact ⟨rfl, rfl, rfl, by rw [unhide HD], rfl⟩
                · have hb : ¬ b = 40 := fun e => h40 (by rw [e]; rfl)
                  have hbb : ((b.toNat : Int) == 40) = false := by simpa using h40
                  have HD : Hid (decide (c.k = 3 ∧ (l.drop j2).head? = some 40) = false) := by show _ = _; rw [hh]; simp [hb]
                  clear hh hb
                  go_wp2
                  go_meet
                  exact ⟨rfl, rfl, rfl, by rw [unhide HD], rfl⟩
              · have HD : Hid (decide (c.k = 3 ∧ (l.drop j2).head? = some 40) = false) := by show _ = _; rw [head_no hjl]; simp
                go_wp2
                go_meet
                exact ⟨rfl, rfl, rfl, by rw [unhide HD], rfl⟩
            · have hkb : (c.k == 3) = false := by simpa using hk3
              have HD : Hid (decide (c.k = 3 ∧ (l.drop j2).head? = some 40) = false) := by show _ = _; simp [hk3]
              go_wp2
              go_meet
              exact ⟨rfl, rfl, rfl, by rw [unhide HD], rfl⟩
          case rest =>
            obtain ⟨rfl, rfl, rfl, rfl, rfl⟩ := hcut
            obtain ⟨hO4, hI4, hB4⟩ := unhide HO4
            obtain ⟨hop, hcs, hrun⟩ := unhide HC
            have hsw := unhide HSW
            have hm := unhide HM
            have hol := unhide HOL
            have htl : (bump t op ++ [c]).length = t.length + 1 := by simp [hbl]
            have hcs' : ∀ d ∈ bump t op ++ [c], -100000 ≤ d.n ∧ d.n ≤ 100000 + ((t.length + 1 : Nat) : Int) ∧ d.s.size ≤ l.length := by
              intro d hd
              rcases List.mem_append.1 hd with hd | hd
              · rcases List.eq_nil_or_concat op with e | ⟨op', x, rfl⟩
                · rw [e, bump_nil] at hd
                  have := hcs d hd; omega
                · have hxl := hop x (by simp)
                  rw [show op'.concat x = op' ++ [x] by simp, bump_snoc t op' x hxl] at hd
                  rcases List.mem_or_eq_of_mem_set hd with hd | hd
                  · have := hcs d hd; omega
                  · have := hcs t[x] (List.getElem_mem hxl); subst hd; simp only; omega
              · have h1 := spWord_bound (l.drop j)
                rw [hsw] at h1
                simp only [List.mem_singleton] at hd
                subst hd
                simp only [List.length_drop] at h1
                omega
            obtain ⟨f, hf⟩ : ∃ f, 40 - t.length = f + 1 := ⟨39 - t.length, by omega⟩
            have hf2 : 40 - (t.length + 1) = f := by omega
            rw [hf] at hrun
            obtain ⟨ao4, cap4, hu4, _⟩ := hO4.shape
            rw [htl] at hu4
            by_cases hc : c.k = 3 ∧ (l.drop j2).head? = some 40
            · rw [decide_eq_true hc]
              have hR := run_open (f := f) (t := t) (op := op) hj1 hsw (by omega) hj2 hc.1 hc.2
              have hj2l : j2 < l.length := by
                rcases Nat.lt_or_ge j2 l.length with h | h
                · exact h
                · rw [head_no (by omega)] at hc; simp at hc
              obtain ⟨v5, w5, hr5, hI5, hg5⟩ := app_oneN wc w.heap.size (.slice io m ic) (op.map Int.ofNat) t.length hI4 hB4.size (by simp; omega)
              have hO5 := own_other hO4 hg5 (own_types4 hI4 hO4 (by decide))
              have hB5 := hB4.grown hg5 hB4.size (fun k e => (World.ownsRow.lt hI4 k e).1)
              subst hu4
              have FIN : Hid (SpR l w RES (.slice ao4 (t.length + 1) cap4) v5 (.int .i64 ((j2 : Int) + 1)) w5) := by
                refine ⟨j2 + 1, bump t op ++ [c], op ++ [t.length], _, _, rfl, rfl, by go_num, by omega, hO5, by simpa using hI5, by omega, ?_, by simp [hbl]; omega, by rw [htl]; exact hcs', by rw [htl, hf2, ← hR, hrun], hB5⟩
                intro x hx
                rw [htl]
                rcases List.mem_append.1 hx with hx | hx
                · have := hop x hx; omega
                · simp at hx; omega
              have e1 : ((t.length : Int) + 1 - 1) = (t.length : Int) := by omega
              have ht2 : t.length ≤ 1000 := by omega
              clear hO5 hI5 hB5 hO4 hI4 hB4 hcs' hcs hop hol hR hrun hsw hm htl hf hf2 hbl hg5 hm40
              go_wp2
              go_roundw
              case rel => exact unhide FIN
              case measure => simp [lenVx]; omega
            · rw [decide_eq_false hc]
              have hR := run_close (f := f) (t := t) (op := op) hj1 hsw (by omega) hj2 hc
              have HR := hide (hR.symm.trans hrun)
              have HF := hide (And.intro hO4 (And.intro hB4 (And.intro hcs' (And.intro htl hf2))))
              have HIM := hide (And.intro hm (And.intro hop (And.intro hol hI4)))
              subst hu4
              clear hO4 hI4 hB4 hcs' hcs hop hol hR hrun hsw hm htl hf hf2 hbl hm40
              go_wp2
              go_loopw [5, 6] (fun o a wr => wr = wc ∧ SpC l w wc t io ic op j2 o a) (fun o _ _ => lenVx o)
              case atStart =>
                obtain ⟨h1, h2, h3, h4⟩ := unhide HIM
                exact ⟨rfl, m, j2, op, rfl, h1, rfl, hj2, h2, h3, h4, rfl⟩
              case round =>
                obtain ⟨rfl, m3, j3, op3, rfl, hm3, rfl, hj3, hop3, hol3, hI3, hcl⟩ := hrel
                have HI3 := hide (And.intro hm3 (And.intro hop3 (And.intro hol3 hI3)))
                have HCL := hide hcl
                have hm340 : m3 ≤ 40 := by omega
                clear hm3 hop3 hol3 hI3 hcl HIM
                go_upto_region 15 with fail
                go_cut [5, 6, 95] from 81 to 102 (fun o1 a1 cn wx => o1 = .slice io m3 ic ∧ a1 = .int .i64 j3 ∧ cn = .bool (decide ((l.drop j3).head? = some 41 ∧ op3 ≠ [])) ∧ wx = wr)
                case first =>
                  by_cases hjl : j3 < l.length
                  · have hh := head_at hjl
                    have hget2 : (mkS l)[j3]'(by rw [hs]; exact hjl) = l[j3] := by
                      show (mkS l).data[j3]'_ = _
                      simp [mkS]
                    generalize l[j3] = b at hh hget2
                    by_cases h41 : (b.toNat : Int) = 41
                    · have hbb : ((b.toNat : Int) == 41) = true := by simpa using h41
                      have hb : b = 41 := UInt8.toNat_inj.1 (by rw [show (41 : UInt8).toNat = 41 from rfl]; omega)
                      by_cases hm0 : 0 < m3
                      · have hne : op3 ≠ [] := fun e => by have := (unhide HI3).1; rw [e] at this; simp at this; omega
                        have HD : Hid (decide ((l.drop j3).head? = some 41 ∧ op3 ≠ []) = true) := by show _ = _; rw [hh, hb]; simp [hne]
                        clear hh hb hne
                        go_wp2
                        go_meet
                        exact ⟨rfl, rfl, by rw [unhide HD], rfl⟩
                      · have hne : op3 = [] := List.length_eq_zero_iff.1 (by have := (unhide HI3).1; omega)
                        have HD : Hid (decide ((l.drop j3).head? = some 41 ∧ op3 ≠ []) = false) := by show _ = _; simp [hne]
                        clear hh hb hne
                        go_wp2
                        go_meet
                        exact ⟨rfl, rfl, by rw [unhide HD], rfl⟩
                    · have hb : ¬ b = 41 := fun e => h41 (by rw [e]; rfl)
                      have hbb : ((b.toNat : Int) == 41) = false := by simpa using h41
                      have HD : Hid (decide ((l.drop j3).head? = some 41 ∧ op3 ≠ []) = false) := by show _ = _; rw [hh]; simp [hb]
                      clear hh hb
                      go_wp2
                      go_meet
                      exact ⟨rfl, rfl, by rw [unhide HD], rfl⟩
                  · have HD : Hid (decide ((l.drop j3).head? = some 41 ∧ op3 ≠ []) = false) := by show _ = _; rw [head_no hjl]; simp
                    go_wp2
                    go_meet
                    exact ⟨rfl, rfl, by rw [unhide HD], rfl⟩
                case rest =>
                  obtain ⟨rfl, rfl, rfl, rfl⟩ := hcut
                  by_cases hc3 : (l.drop j3).head? = some 41 ∧ op3 ≠ []
                  · rw [decide_eq_true hc3]
                    obtain ⟨op', x, rfl⟩ : ∃ op' x, op3 = op' ++ [x] := ⟨op3.dropLast, op3.getLast hc3.2, (List.dropLast_concat_getLast _).symm⟩
                    obtain ⟨hm3, hop3, hol3, hI3⟩ := unhide HI3
                    obtain ⟨m3, rfl⟩ : ∃ k, m3 = k + 1 := ⟨m3 - 1, by simp at hm3; omega⟩
                    have hm' : m3 = (op'.map Int.ofNat).length := by simp at hm3 ⊢; omega
                    have hI3' : OwnI wc w.heap.size (.slice io ((op'.map Int.ofNat).length + 1) ic) (op'.map Int.ofNat ++ [(x : Int)]) := by rw [← hm']; have := hI3; rw [List.map_append] at this; exact this
                    have hI4 := ownI_take hI3'
                    rw [← hm'] at hI4
                    obtain ⟨gi, rfl, hgi, _, _, hci⟩ := ownI_top hI3'
                    rw [← hm'] at hci
                    have hj3l : j3 < l.length := by
                      rcases Nat.lt_or_ge j3 l.length with h | h
                      · exact h
                      · rw [head_no (by omega)] at hc3; simp at hc3
                    have FIN : Hid (SpC l w wc t (some ⟨gi, 0, none⟩) ic op j2 (.slice (some ⟨gi, 0, none⟩) m3 ic) (.int .i64 ((j3 : Int) + 1))) :=
                      ⟨m3, j3 + 1, op', rfl, by simpa using hm', by go_num, by omega, fun y hy => hop3 y (by simp [hy]), by simp at hol3; omega, hI4, by rw [← unhide HCL, close_on hc3.1]⟩
                    have e1 : ((m3 : Int) + 1 - 1) = (m3 : Int) := by omega
                    have hm1 : m3 ≤ 1000 := by omega
                    clear hc3 hm3 hop3 hol3 hI3 hm' hI3' hI4 HCL HI3
                    go_wp2
                    go_roundw
                    case rel => first | exact ⟨rfl, unhide FIN⟩ | exact ⟨trivial, unhide FIN⟩ | ((repeat apply Exists.intro); first | exact ⟨⟨rfl, unhide FIN⟩, rfl⟩ | exact ⟨⟨trivial, unhide FIN⟩, rfl⟩ | exact ⟨unhide FIN, rfl⟩)
                    case measure => simp [lenVx]
                  · rw [decide_eq_false hc3]
                    have hce := close_end hc3
                    rw [unhide HCL] at hce
                    have HCE := hide hce
                    clear hce HCL hc3
                    go_upto_region 18 with fail
                    go_cut [4, 5, 6, 112] from 11 to 114 (fun v1 o1 a1 cn wx => v1 = .slice ao4 (t.length + 1) cap4 ∧ o1 = .slice io m3 ic ∧ a1 = .int .i64 j3 ∧ cn = .bool (decide ((l.drop j3).head? = some 44)) ∧ wx = wc)
                    case first =>
                      by_cases hjl : j3 < l.length
                      · have hh := head_at hjl
                        have hget2 : (mkS l)[j3]'(by rw [hs]; exact hjl) = l[j3] := by
                          show (mkS l).data[j3]'_ = _
                          simp [mkS]
                        generalize l[j3] = b at hh hget2
                        by_cases h44 : (b.toNat : Int) = 44
                        · have hbb : ((b.toNat : Int) == 44) = true := by simpa using h44
                          have hb : b = 44 := UInt8.toNat_inj.1 (by rw [show (44 : UInt8).toNat = 44 from rfl]; omega)
                          have HD : Hid (decide ((l.drop j3).head? = some 44) = true) := by show _ = _; rw [hh, hb]; simp
                          clear hh hb
                          go_wp2
                          go_meet
                          exact ⟨rfl, rfl, rfl, by rw [unhide HD], rfl⟩
                        · have hb : ¬ b = 44 := fun e => h44 (by rw [e]; rfl)
                          have hbb : ((b.toNat : Int) == 44) = false := by simpa using h44
                          have HD : Hid (decide ((l.drop j3).head? = some 44) = false) := by show _ = _; rw [hh]; simp [hb]
                          clear hh hb
                          go_wp2
                          go_meet
                          exact ⟨rfl, rfl, rfl, by rw [unhide HD], rfl⟩
                      · have HD : Hid (decide ((l.drop j3).head? = some 44) = false) := by show _ = _; rw [head_no hjl]; simp
                        go_wp2
                        go_meet
                        exact ⟨rfl, rfl, rfl, by rw [unhide HD], rfl⟩
                    case rest =>
                      obtain ⟨rfl, rfl, rfl, rfl, rfl⟩ := hcut
                      obtain ⟨hm3, hop3, hol3, hI3⟩ := unhide HI3
                      obtain ⟨hO4, hB4, hcs', htl, hf2⟩ := unhide HF
                      have hcm := comma_at l j3
                      by_cases hc4 : (l.drop j3).head? = some 44
                      · rw [decide_eq_true hc4]
                        rw [if_pos hc4] at hcm
                        have hj3l : j3 < l.length := by
                          rcases Nat.lt_or_ge j3 l.length with h | h
                          · exact h
                          · rw [head_no (by omega)] at hc4; simp at hc4
                        have FIN : Hid (SpR l w RES (.slice ao4 (t.length + 1) cap4) (.slice io m3 ic) (.int .i64 ((j3 : Int) + 1)) wc) := by
                          refine ⟨j3 + 1, bump t op ++ [c], op3, _, _, rfl, rfl, by go_num, by omega, hO4, hI3, by omega, ?_, by omega, by rw [htl]; exact hcs', ?_, hB4⟩
                          · intro x hx; have := hop3 x hx; omega
                          · have := unhide HR
                            rw [unhide HCE] at this
                            rw [htl, hf2, ← hcm]; exact this
                        clear hm3 hop3 hol3 hI3 hO4 hB4 hcs' htl hf2 hcm hc4 HR HCE HF HI3
                        go_wp2
                        go_roundw
                        case rel => first | exact unhide FIN | ((repeat apply Exists.intro); exact ⟨unhide FIN, rfl⟩)
                        case measure => simp [lenVx]; omega
                      · rw [decide_eq_false hc4]
                        rw [if_neg hc4] at hcm
                        have FIN : Hid (SpR l w RES (.slice ao4 (t.length + 1) cap4) (.slice io m3 ic) (.int .i64 (j3 : Int)) wc) := by
                          refine ⟨j3, bump t op ++ [c], op3, _, _, rfl, rfl, rfl, by omega, hO4, hI3, by omega, ?_, by omega, by rw [htl]; exact hcs', ?_, hB4⟩
                          · intro x hx; have := hop3 x hx; omega
                          · have := unhide HR
                            rw [unhide HCE] at this
                            rw [htl, hf2, ← hcm]; exact this
                        clear hm3 hop3 hol3 hI3 hO4 hB4 hcs' htl hf2 hcm hc4 HR HCE HF HI3
                        go_wp2
                        go_roundw
                        case rel => first | exact unhide FIN | ((repeat apply Exists.intro); exact ⟨unhide FIN, rfl⟩)
                        case measure => simp [lenVx]; omega
    · have hre := run_end (f := 40 - t.length) (t := t) (op := op) (show ¬ (j < l.length ∧ 0 < 40 - t.length) from fun h => hmore ⟨h.1, by omega⟩)
      rw [hrun] at hre
      have hrun' : spRun 40 l [] [] = some t := (unhide HR0).symm.trans hre
      have hF : Fit t := fun d hd => by have := (hcs d hd).2.2; unfold maxLen; omega
      have HTX := hide (specTrmText_any ao cap t wr (by unfold maxLen; omega) hR hF)
      have HX := hide (And.intro hO (And.intro hB hrun'))
      have ht3 : t.length ≤ 40 := ht
      have hmk : (mkS l).toList.isEmpty = l.isEmpty := by rw [ByteArray.toList_eq]; simp [mkS]
      clear hO hI hB hop hol hcs hrun hre hrun' hF hR HR0
      by_cases hj1 : j < l.length
      · have ht1 : ¬ t.length < 40 := fun h => hmore ⟨hj1, h⟩
        go_wp2_with fail
        refine (unhide HTX).mono ?_
        rintro e w3 ⟨rfl, hb3⟩
        obtain ⟨hO, hB, hrun'⟩ := unhide HX
        have hB3 := bstep hB hb3
        by_cases hy : textT t = mkS l
        · have hq : ((textT t).toList == (mkS l).toList) = true := by rw [hy]; simp
          by_cases hl0 : l = []
          · have hem : (mkS l).toList.isEmpty = true := by rw [hmk, hl0]; rfl
            have hnew := World.ownsRow_made w3 (e := 49) (size := 3) #[] 0 hB3.size (by simp [maxLen]) rfl
            have FIN := hide (read_no (rdX_run_no hrun' (fun h => h.2 hl0)) hnew (bstep hB3 (cell_below _ _)))
            clear hO hB hrun' hnew hy hl0 HX HTX hmk hs
            go_wp2
            go_ret2
            exact unhide FIN
          · have hem : (mkS l).toList.isEmpty = false := by rw [hmk]; cases l with
              | nil => exact absurd rfl hl0
              | cons _ _ => rfl
            have FIN := hide (read_yes (rdX_run_yes hy hl0) (own_below hO hb3) hB3)
            clear hO hB hrun' hy hl0 HX HTX hmk hs
            go_wp2
            go_ret2
            exact unhide FIN
        · have hq : ((textT t).toList == (mkS l).toList) = false := by
            rw [ByteArray.toList_eq, ByteArray.toList_eq]; simp only [beq_eq_false_iff_ne]; exact fun h => hy (bytes_ext h)
          have hnew := World.ownsRow_made w3 (e := 49) (size := 3) #[] 0 hB3.size (by simp [maxLen]) rfl
          have FIN := hide (read_no (rdX_run_no hrun' (fun h => hy h.1)) hnew (bstep hB3 (cell_below _ _)))
          clear hO hB hrun' hnew hy HX HTX hmk hs
          go_wp2
          go_ret2
          exact unhide FIN
      · skip
        go_wp2_with fail
        refine (unhide HTX).mono ?_
        rintro e w3 ⟨rfl, hb3⟩
        obtain ⟨hO, hB, hrun'⟩ := unhide HX
        have hB3 := bstep hB hb3
        by_cases hy : textT t = mkS l
        · have hq : ((textT t).toList == (mkS l).toList) = true := by rw [hy]; simp
          by_cases hl0 : l = []
          · have hem : (mkS l).toList.isEmpty = true := by rw [hmk, hl0]; rfl
            have hnew := World.ownsRow_made w3 (e := 49) (size := 3) #[] 0 hB3.size (by simp [maxLen]) rfl
            have FIN := hide (read_no (rdX_run_no hrun' (fun h => h.2 hl0)) hnew (bstep hB3 (cell_below _ _)))
            clear hO hB hrun' hnew hy hl0 HX HTX hmk hs
            go_wp2
            go_ret2
            exact unhide FIN
          · have hem : (mkS l).toList.isEmpty = false := by rw [hmk]; cases l with
              | nil => exact absurd rfl hl0
              | cons _ _ => rfl
            have FIN := hide (read_yes (rdX_run_yes hy hl0) (own_below hO hb3) hB3)
            clear hO hB hrun' hy hl0 HX HTX hmk hs
            go_wp2
            go_ret2
            exact unhide FIN
        · have hq : ((textT t).toList == (mkS l).toList) = false := by
            rw [ByteArray.toList_eq, ByteArray.toList_eq]; simp only [beq_eq_false_iff_ne]; exact fun h => hy (bytes_ext h)
          have hnew := World.ownsRow_made w3 (e := 49) (size := 3) #[] 0 hB3.size (by simp [maxLen]) rfl
          have FIN := hide (read_no (rdX_run_no hrun' (fun h => hy h.1)) hnew (bstep hB3 (cell_below _ _)))
          clear hO hB hrun' hnew hy HX HTX hmk hs
          go_wp2
          go_ret2
          exact unhide FIN
end Go.Proofs.YtjjpmlcaapedhaaDoor
