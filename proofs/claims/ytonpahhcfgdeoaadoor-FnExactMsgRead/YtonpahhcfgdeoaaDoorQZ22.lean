/- The specification: MsgRead. -/
import Derived.Test.YtonpahhcfgdeoaaDoorQZ20Z18Z21
import Derived.Deep.RegionHeld3
namespace Go.Proofs.YtonpahhcfgdeoaaDoor
open Go.RowKit
set_option linter.unusedVariables false
set_option linter.unusedSimpArgs false

set_option maxRecDepth 100000 in
set_option maxHeartbeats 4000000 in
theorem specMsgRead_any (ao : Option Addr) (cap : Nat) (y : List Int) (D : Option MsgT) (w : World) (hA : RowY w ao y) (hy : ByL y) (hD : RdD y D) (hl : y.length ≤ 1048576) (hc : y.length ≤ cap) :
    Calls Tryd.prog 4 #[.slice ao y.length cap] w (GotM w D) := by
  have HD := hide hD
  have HY := hide hy
  obtain ⟨W, hW⟩ : ∃ W, W = w.alloc zeroM := ⟨_, rfl⟩
  have hB0 : Below w.heap.size w W := by rw [hW]; exact cell_below _ _
  have hX : W.heap[w.heap.size]? = some (.cells #[Value.int IntKind.i64 0, Value.int IntKind.i64 0, Value.slice none 0 0, Value.int IntKind.i64 0, Value.int IntKind.i64 0, Value.slice none 0 0] 27 (0, 0)) := by rw [hW]; exact heap_alloc_new w _
  have HB := hide (l6Body_any ao cap y W (hA.below hB0) hy hl hc)
  clear hA hD hy
  go_enter Tryd.func4, Tryd.ntmps4
  go_wp2_with fail
  rw [← hW]
  clear hW
  refine (unhide HB).mono ?_
  intro e w1 hBS
  rcases hBS with ⟨⟨hno, v, rfl⟩, hb1⟩ | ⟨z, zo, zc, hz, rfl, hzr, hzc, hb1⟩
  · have hB1 := bstep hB0 hb1
    have hX1 := blk_below hX hb1
    obtain ⟨x0, x1, x2, x3, x4, x5⟩ := six_cells hX1
    obtain ⟨f0, f1, f2, f3, f4, f5⟩ := six_frozen hX1
    have HF := hide (got_no ((unhide HD).no (rdF_none fun m h => by obtain ⟨z, hz, _⟩ := rdF_iff.1 h; rw [hno] at hz; cases hz)) hB1)
    clear hno hb1 hB1 hX1 hX HB
    go_wp2
    exact bodyPost_ret (v := .tuple #[.agg #[.int .i64 0, .int .i64 0, .slice none 0 0, .int .i64 0, .int .i64 0, .slice none 0 0], .bool false]) (by simp [results, Tryd.results4, go_sem, *]) rfl (unhide HF)
  have hB1 := bstep hB0 hb1
  have hX1 := blk_below hX hb1
  obtain ⟨hyz, hz11⟩ := bdy_parts (unhide HY) hz
  have HZ := hide hz
  clear hz hX hb1 HB hB0
  by_cases h7 : z.length < 7
  · obtain ⟨x0, x1, x2, x3, x4, x5⟩ := six_cells hX1
    obtain ⟨f0, f1, f2, f3, f4, f5⟩ := six_frozen hX1
    have HF := hide (got_no ((unhide HD).no (rdF_short (unhide HZ) h7)) hB1)
    clear hB1 hX1
    go_wp2
    exact bodyPost_ret (v := .tuple #[.agg #[.int .i64 0, .int .i64 0, .slice none 0 0, .int .i64 0, .int .i64 0, .slice none 0 0], .bool false]) (by simp [results, Tryd.results4, go_sem, *]) rfl (unhide HF)
  have hz7 : 7 ≤ z.length := by omega
  have hzb : ∃ b off, zo = some ⟨b, off, none⟩ ∧ AtY w1 b off z := by
    rcases hzr with rfl | h
    · simp at hz7
    · exact h
  obtain ⟨b, off, rfl, hAz⟩ := hzb
  have h6 := six_drop (z := z) (by omega)
  have d0 := hAz 0 (by omega)
  have d1 := hAz 1 (by omega)
  have d2 := hAz 2 (by omega)
  have b0 := hyz.get 0 (by omega)
  have b1 := hyz.get 1 (by omega)
  have b2 := hyz.get 2 (by omega)
  have HN := hide (show Calls Tryd.prog 13 #[.slice (some ⟨b, off, none⟩) z.length zc, .int .i64 3] w1 fun e w' => e = .returned (.tuple #[.int .i64 (valN (z[3]'(by omega)) (z[4]'(by omega)) (z[5]'(by omega))), .bool true]) ∧ ∃ n, w' = w1.drewN n from l6Num_yes b off zc z 3 w1 hAz hyz (by omega) (by omega))
  have hbl : b < w1.heap.size := hAz.lt (by omega)
  obtain ⟨k, hk⟩ : ∃ k, k = z[0]'(by omega) := ⟨_, rfl⟩
  obtain ⟨f, hf⟩ : ∃ f, f = z[1]'(by omega) := ⟨_, rfl⟩
  obtain ⟨st, hst⟩ : ∃ st, st = z[2]'(by omega) := ⟨_, rfl⟩
  obtain ⟨x3, hx3⟩ : ∃ x3, x3 = z[3]'(by omega) := ⟨_, rfl⟩
  obtain ⟨x4, hx4⟩ : ∃ x4, x4 = z[4]'(by omega) := ⟨_, rfl⟩
  obtain ⟨x5, hx5⟩ : ∃ x5, x5 = z[5]'(by omega) := ⟨_, rfl⟩
  rw [← hk, ← hf, ← hst, ← hx3, ← hx4, ← hx5] at h6
  rw [← hx3, ← hx4, ← hx5] at HN
  rw [← hk, Nat.add_zero] at d0
  rw [← hf] at d1
  rw [← hst] at d2
  rw [← hk] at b0
  rw [← hf] at b1
  rw [← hst] at b2
  obtain ⟨n, hn⟩ : ∃ n, n = valN x3 x4 x5 := ⟨_, rfl⟩
  rw [← hn] at HN
  have HK := hide (And.intro h6 hn)
  have HT := hide (fun (W : World) (hW : Below w1.heap.size w1 W) => show Calls Tryd.prog 14 #[.slice (some ⟨b, off, none⟩) z.length zc, .int .i64 6] W (TermSP W z 6) from l6TermAt_any (some ⟨b, off, none⟩) zc 6 z W (.of_at (hAz.below hW)) hyz (by omega) (by omega) hzc)
  have HT2 := hide (fun (q : Nat) (hq : q ≤ z.length) (W : World) (hW : Below w1.heap.size w1 W) => l6TermAt_any (some ⟨b, off, none⟩) zc q z W (.of_at (hAz.below hW)) hyz hq (by omega) hzc)
  clear h6 hk hf hst hx3 hx4 hx5 hn hzr hAz hyz
  go_wp2_with fail
  refine (unhide HN).mono ?_
  rintro e w2 ⟨rfl, nq, rfl⟩
  have hb2 := belowDrewN w1 nq
  go_wp2_with fail
  refine (unhide HT _ hb2).mono ?_
  rintro e w3 ⟨v5, t, q, rfl, o5, hq, hb3⟩
  have hb13 := bstep hb2 hb3
  have hwl := blk_lt hX1
  have hB3 := bstep hB1 hb13
  have hX3 := blk_below hX1 hb13
  have e0 := (hb13.cell (p := ⟨b, off, none⟩) hbl).trans d0
  have e1 := (hb13.cell (p := ⟨b, off + 1, none⟩) hbl).trans d1
  have e2 := (hb13.cell (p := ⟨b, off + 2, none⟩) hbl).trans d2
  obtain ⟨xa, xc, rfl, _⟩ := o5.shape
  have hw0 : IntKind.u8.wrap k = k := by rw [show IntKind.u8.wrap k = k % 256 from rfl]; omega
  clear d0 d1 d2 HN HT hX1 hB1 hb2 hb3
  go_wp2_with fail
  have hwk : IntKind.i64.wrap k = k := by rw [IntKind.wrap_i64]; omega
  have hwf : IntKind.i64.wrap f = f := by rw [IntKind.wrap_i64]; omega
  have hws : IntKind.i64.wrap st = st := by rw [IntKind.wrap_i64]; omega
  have hw1 : IntKind.u8.wrap f = f := by rw [show IntKind.u8.wrap f = f % 256 from rfl]; omega
  have hw2 : IntKind.u8.wrap st = st := by rw [show IntKind.u8.wrap st = st % 256 from rfl]; omega
  have hi0 : (0 : Int) < (z.length : Int) := by omega
  have hi1 : (1 : Int) < (z.length : Int) := by omega
  have hi2 : (2 : Int) < (z.length : Int) := by omega
  have hj0 : 0 < z.length := by omega
  have hj1 : 1 < z.length := by omega
  have hj2 : 2 < z.length := by omega
  go_region_held3 (fun w' => w'.cell? ⟨b, off, none⟩ = some (.int .u8 k) ∧ w'.cell? ⟨b, off + 1, none⟩ = some (.int .u8 f) ∧ w'.cell? ⟨b, off + 2, none⟩ = some (.int .u8 st)) (first | (refine ⟨?_, ?_, ?_⟩ <;> assumption) | go_keep) (fail)
  obtain ⟨V, hV⟩ : ∃ V, V = (w3.alloc (Obj.cells #[Value.int IntKind.i64 k, Value.int IntKind.i64 f, Value.slice xa t.length xc, Value.int IntKind.i64 n, Value.int IntKind.i64 st, Value.slice none 0 0] 27)).drew := ⟨_, rfl⟩
  rw [← hV]
  have hbV : Below w3.heap.size w3 V := by rw [hV]; exact (cell_below _ _).drew
  have hM : V.heap[w3.heap.size]? = some (.cells #[Value.int IntKind.i64 k, Value.int IntKind.i64 f, Value.slice xa t.length xc, Value.int IntKind.i64 n, Value.int IntKind.i64 st, Value.slice none 0 0] 27 (0, 0)) := by rw [hV]; exact heap_alloc_new w3 _
  have hBV := bstep hB3 hbV
  have hXV := blk_below hX3 hbV
  have o5V : OwnC V w1.heap.size (.slice xa t.length xc) t := by
    have := o5.below hbV
    exact own_lo this (fun j e => by have h := (World.ownsRow.lt this j e).1; simp at h; omega)
  have HL5 := hide (show ∀ j, (Value.slice xa t.length xc).ownBlock = some j → j < w3.heap.size from fun j e => (World.ownsRow.lt o5 j e).2)
  have hs13 : w1.heap.size ≤ w3.heap.size := hb13.size
  have hsV : w3.heap.size < V.heap.size := blk_lt hM
  clear hV hw0 hw1 hw2 hwk hwf hws b0 b1 b2 hi0 hi1 hi2 hj0 hj1 hj2 e0 e1 e2 o5 hX3
  rcases hq with ⟨rfl, _, hT0⟩ | ⟨q', rfl, hq', hT0⟩
  · have HNO := hide (rdF_noT (unhide HZ) (unhide HK).1 hT0)
    clear hT0
    obtain ⟨x0, x1, x2, x3', x4', x5'⟩ := six_cells hXV
    obtain ⟨f0, f1, f2, f3, f4, f5⟩ := six_frozen hXV
    have HF := hide (got_no ((unhide HD).no (unhide HNO)) hBV)
    clear hBV hXV hM o5V hb13 hB3 hbV
    go_wp2
    exact bodyPost_ret (v := .tuple #[.agg #[.int .i64 0, .int .i64 0, .slice none 0 0, .int .i64 0, .int .i64 0, .slice none 0 0], .bool false]) (by simp [results, Tryd.results4, go_sem, *]) rfl (unhide HF)
  have HT0 := hide hT0
  clear hT0
  by_cases h2 : st = 2
  · subst h2
    have H3 := hide (unhide HT2 q' hq' V (bstep hb13 hbV))
    obtain ⟨m0, m1, m2, m3, m4, m5⟩ := six_cells hM
    have HS := hide (And.intro o5V (And.intro hBV (And.intro hXV hM)))
    clear o5V hBV hXV hM hbV HT2 hb13 hB3
    go_wp2_with fail
    refine (unhide H3).mono ?_
    rintro e w5 ⟨v6, u, q2, rfl, o6, hq2, hb5⟩
    obtain ⟨o5V, hBV, hXV, hM⟩ := unhide HS
    have hap := apt_lt o5V o6 (Nat.le_refl _)
    have hM5 := blk_below hM hb5
    obtain ⟨ya, yc, rfl, _⟩ := o6.shape
    have hM6 : (w5.setCell ⟨w3.heap.size, 5, none⟩ (.slice ya u.length yc)).heap[w3.heap.size]? = some (.cells #[Value.int IntKind.i64 k, Value.int IntKind.i64 f, Value.slice xa t.length xc, Value.int IntKind.i64 n, Value.int IntKind.i64 2, Value.slice ya u.length yc] 27 (0, 0)) := heap_setCell_same w5 _ 5 _ _ _ hM5
    have hg5 := grown_setC w5 ⟨w3.heap.size, 5, none⟩ (.slice ya u.length yc)
    have hX5 := blk_below hXV hb5
    have hX6 := (hg5.block w.heap.size (blk_lt hX5) (fun e => by simp at e; omega)).trans hX5
    have hB6 := (bstep hBV hb5).setCell (p := ⟨w3.heap.size, 5, none⟩) (by show w.heap.size ≤ w3.heap.size; omega) (.slice ya u.length yc)
    have o6' : OwnC _ w1.heap.size (.slice ya u.length yc) u := own_lo (own_apart o6 hg5 (fun j e => .inl (by simp at e; omega))) (fun j e => by have h := (World.ownsRow.lt o6 j e).1; omega)
    have o5' : OwnC (w5.setCell ⟨w3.heap.size, 5, none⟩ (.slice ya u.length yc)) w1.heap.size (.slice xa t.length xc) t := own_block (own_below o5V hb5) (fun j e => hg5.block j (World.ownsRow.lt (own_below o5V hb5) j e).2 (fun e' => by have := unhide HL5 j e; simp at e'; omega))
    obtain ⟨m0, m1, m2, m3, m4, m5⟩ := six_cells hM5
    obtain ⟨n0, n1, n2, n3, n4, n5⟩ := six_frozen hM5
    obtain ⟨U, hU⟩ : ∃ U, U = w5.setCell ⟨w3.heap.size, 5, none⟩ (.slice ya u.length yc) := ⟨_, rfl⟩
    rw [← hU] at hM6 hX6 hB6 o6' o5'
    clear hg5 hX5 hBV hXV hM o6 o5V HS H3
    rcases hq2 with ⟨rfl, hu0, hU0⟩ | ⟨q3, rfl, hq3, hU0⟩
    · have HNO := hide (rdF_noU (unhide HZ) (unhide HK).1 (unhide HT0) hU0)
      have hne : ((-1 : Int) != (z.length : Int)) = true := by rw [bne_iff_ne]; omega
      obtain ⟨m0', m1', m2', m3', m4', m5'⟩ := six_cells hM6
      obtain ⟨x0, x1, x2, x3', x4', x5'⟩ := six_cells hX6
      obtain ⟨f0, f1, f2, f3, f4, f5⟩ := six_frozen hX6
      have HF := hide (got_no ((unhide HD).no (unhide HNO)) hB6)
      clear hU0 hu0 hM6 hX6 hB6 o6' o5' hap hb5 HK HT0
      subst hU
      go_wp2
      exact bodyPost_ret (v := .tuple #[.agg #[.int .i64 0, .int .i64 0, .slice none 0 0, .int .i64 0, .int .i64 0, .slice none 0 0], .bool false]) (by simp [results, Tryd.results4, go_sem, *]) rfl (unhide HF)
    · by_cases hqe : q3 = z.length
      · subst hqe
        have hyes := rdF_two (unhide HZ) (unhide HK).1 (unhide HT0) hU0 hq3
        rw [if_pos rfl, ← (unhide HK).2] at hyes
        obtain ⟨ht, hu⟩ := rdF_trm hyes
        have oT := (outM_own o5' (.inr ht)).1
        have oU := (outM_own o6' hu).1
        obtain ⟨r, hr, hDe⟩ := (unhide HD).yes hyes
        have HMO := hide (show Calls Tryd.prog 15 #[.agg #[.int .i64 k, .int .i64 f, .slice xa t.length xc, .int .i64 n, .int .i64 2, Value.slice ya u.length yc]] U fun e w' => e = .returned (.bool (msgB k f n 2 t u r)) ∧ Below U.heap.size U w' from specMsgOk_any k f n 2 xa _ xc _ t u r U oT oU (fun W' hW' hu => own_tdT (own_below o6' hW') (trm_len hu).1) hr)
        obtain ⟨B, hBe⟩ : ∃ B, B = msgB k f n 2 t u r := ⟨_, rfl⟩
        rw [← hBe] at HMO hDe
        have HDe := hide hDe
        have HO := hide (And.intro o5' (And.intro o6' (And.intro hap (And.intro hB6 (And.intro hX6 hM6)))))
        obtain ⟨m0, m1, m2, m3, m4, m5⟩ := six_cells hM6
        have hne : ((z.length : Int) != (z.length : Int)) = false := by simp
        clear hyes ht hu oT oU hr hDe hBe hB6 hX6 hM6 o5' o6' hap hb5 hM5 hU0
        subst hU
        go_wp2_with fail
        refine (unhide HMO).mono ?_
        rintro e w8 ⟨rfl, hb8⟩
        obtain ⟨q5, q6, hap', hB', hX', hM'⟩ := unhide HO
        have hB8 := bstep hB' hb8
        have hX8 := blk_below hX' hb8
        have hM8 := blk_below hM' hb8
        clear m0 m1 m2 m3 m4 m5
        obtain ⟨x0, x1, x2, x3', x4', x5'⟩ := six_cells hX8
        obtain ⟨f0, f1, f2, f3, f4, f5⟩ := six_frozen hX8
        obtain ⟨m0, m1, m2, m3, m4, m5⟩ := six_cells hM8
        have p5 : OwnC w8 (w.heap.size + 1) (.slice xa t.length xc) t := own_lo (own_below q5 hb8) (fun j e => by have h := (World.ownsRow.lt q5 j e).1; omega)
        have p6 : OwnC w8 (w.heap.size + 1) (Value.slice ya u.length yc) u := own_lo (own_below q6 hb8) (fun j e => by have h := (World.ownsRow.lt q6 j e).1; omega)
        cases B with
        | false =>
          have HF := hide (got_no (unhide HDe) hB8)
          clear HO q5 q6 hap' hB' hB8 p5 p6 hb8 HMO hX' hX8 hM' hM8
          go_wp2
          exact bodyPost_ret (v := .tuple #[.agg #[.int .i64 0, .int .i64 0, .slice none 0 0, .int .i64 0, .int .i64 0, .slice none 0 0], .bool false]) (by simp [results, Tryd.results4, go_sem, *]) rfl (unhide HF)
        | true =>
          have HF := hide (got_yes (unhide HDe) p5 p6 hap' hB8)
          clear HO q5 q6 hap' hB' hB8 p5 p6 hb8 HMO hX' hX8 hM' hM8
          go_wp2
          exact bodyPost_ret (v := .tuple #[.agg #[.int .i64 k, .int .i64 f, .slice xa t.length xc, .int .i64 n, .int .i64 2, Value.slice ya u.length yc], .bool true]) (by simp [results, Tryd.results4, go_sem, *]) rfl (unhide HF)
      · have hne : ((q3 : Int) != (z.length : Int)) = true := by rw [bne_iff_ne]; omega
        obtain ⟨m0, m1, m2, m3, m4, m5⟩ := six_cells hM6
        obtain ⟨x0, x1, x2, x3', x4', x5'⟩ := six_cells hX6
        obtain ⟨f0, f1, f2, f3, f4, f5⟩ := six_frozen hX6
        have HF := hide (got_no ((unhide HD).no ((rdF_two (unhide HZ) (unhide HK).1 (unhide HT0) hU0 hq3).trans (if_neg hqe))) hB6)
        clear hqe HK hB6 hX6 hM6 o5' o6' hap hb5 hM5 hU0
        subst hU
        go_wp2
        exact bodyPost_ret (v := .tuple #[.agg #[.int .i64 0, .int .i64 0, .slice none 0 0, .int .i64 0, .int .i64 0, .slice none 0 0], .bool false]) (by simp [results, Tryd.results4, go_sem, *]) rfl (unhide HF)
  · have hse : (st == 2) = false := by simpa using h2
    obtain ⟨m0, m1, m2, m3, m4, m5⟩ := six_cells hM
    by_cases hqe : q' = z.length
    · subst hqe
      have hyes := rdF_one (unhide HZ) (unhide HK).1 (unhide HT0) hq' h2
      rw [if_pos rfl, ← (unhide HK).2] at hyes
      obtain ⟨ht, hu⟩ := rdF_trm hyes
      have oT := (outM_own o5V (.inr ht)).1
      have oU := (outM_own (ownC_nil V w1.heap.size) hu).1
      obtain ⟨r, hr, hDe⟩ := (unhide HD).yes hyes
      have HMO := hide (show Calls Tryd.prog 15 #[.agg #[.int .i64 k, .int .i64 f, .slice xa t.length xc, .int .i64 n, .int .i64 st, Value.slice none 0 0]] V fun e w' => e = .returned (.bool (msgB k f n st t [] r)) ∧ Below V.heap.size V w' from specMsgOk_any k f n st xa _ xc _ t [] r V oT oU (fun W' hW' hu => absurd (trm_len hu).1 (by simp)) hr)
      obtain ⟨B, hBe⟩ : ∃ B, B = msgB k f n st t [] r := ⟨_, rfl⟩
      rw [← hBe] at HMO hDe
      have HDe := hide hDe
      have HO := hide (And.intro o5V (And.intro (ownC_nil V w1.heap.size) (And.intro (apt_none (.slice xa t.length xc)) (And.intro hBV (And.intro hXV hM)))))
      obtain ⟨m0, m1, m2, m3, m4, m5⟩ := six_cells hM
      have hne : ((z.length : Int) != (z.length : Int)) = false := by simp
      clear hyes ht hu oT oU hr hDe hBe hBV hXV hM o5V HT2 hb13 hB3 hbV
      go_wp2_with fail
      refine (unhide HMO).mono ?_
      rintro e w8 ⟨rfl, hb8⟩
      obtain ⟨q5, q6, hap', hB', hX', hM'⟩ := unhide HO
      have hB8 := bstep hB' hb8
      have hX8 := blk_below hX' hb8
      have hM8 := blk_below hM' hb8
      clear m0 m1 m2 m3 m4 m5
      obtain ⟨x0, x1, x2, x3', x4', x5'⟩ := six_cells hX8
      obtain ⟨f0, f1, f2, f3, f4, f5⟩ := six_frozen hX8
      obtain ⟨m0, m1, m2, m3, m4, m5⟩ := six_cells hM8
      have p5 : OwnC w8 (w.heap.size + 1) (.slice xa t.length xc) t := own_lo (own_below q5 hb8) (fun j e => by have h := (World.ownsRow.lt q5 j e).1; omega)
      have p6 : OwnC w8 (w.heap.size + 1) (Value.slice none 0 0) [] := own_lo (own_below q6 hb8) (fun j e => by have h := (World.ownsRow.lt q6 j e).1; omega)
      cases B with
      | false =>
        have HF := hide (got_no (unhide HDe) hB8)
        clear HO q5 q6 hap' hB' hB8 p5 p6 hb8 HMO hX' hX8 hM' hM8
        go_wp2
        exact bodyPost_ret (v := .tuple #[.agg #[.int .i64 0, .int .i64 0, .slice none 0 0, .int .i64 0, .int .i64 0, .slice none 0 0], .bool false]) (by simp [results, Tryd.results4, go_sem, *]) rfl (unhide HF)
      | true =>
        have HF := hide (got_yes (unhide HDe) p5 p6 hap' hB8)
        clear HO q5 q6 hap' hB' hB8 p5 p6 hb8 HMO hX' hX8 hM' hM8
        go_wp2
        exact bodyPost_ret (v := .tuple #[.agg #[.int .i64 k, .int .i64 f, .slice xa t.length xc, .int .i64 n, .int .i64 st, Value.slice none 0 0], .bool true]) (by simp [results, Tryd.results4, go_sem, *]) rfl (unhide HF)
    · have hne : ((q' : Int) != (z.length : Int)) = true := by rw [bne_iff_ne]; omega
      obtain ⟨m0, m1, m2, m3, m4, m5⟩ := six_cells hM
      obtain ⟨x0, x1, x2, x3', x4', x5'⟩ := six_cells hXV
      obtain ⟨f0, f1, f2, f3, f4, f5⟩ := six_frozen hXV
      have HF := hide (got_no ((unhide HD).no ((rdF_one (unhide HZ) (unhide HK).1 (unhide HT0) hq' h2).trans (if_neg hqe))) hBV)
      clear hqe HK hBV hXV hM o5V HT2 hb13 hB3 hbV
      go_wp2
      exact bodyPost_ret (v := .tuple #[.agg #[.int .i64 0, .int .i64 0, .slice none 0 0, .int .i64 0, .int .i64 0, .slice none 0 0], .bool false]) (by simp [results, Tryd.results4, go_sem, *]) rfl (unhide HF)
end Go.Proofs.YtonpahhcfgdeoaaDoor
