import Derived.Test.YtddhjafpacgdaaaQMU1RW1FL4FL8
import Derived.Test.YtddhjafpacgdaaaQSB5W14ES1
import Derived.Test.YtddhjafpacgdaaaQD1D2
import Derived.Test.YtddhjafpacgdaaaQPlain4PB1
/- The walk of the law FnExactSubFull. -/
namespace Go.Proofs.Ytddhjafpacgdaaa
open Go.RowKit
set_option linter.unusedVariables false
set_option linter.unusedSimpArgs false

theorem fullB_len (s : List B) (t : List C) : ((fullB s t).getD []).length ≤ 40 := by
  unfold fullB
  split
  · unfold fullOk
    split
    · split
      · rename_i h; exact h
      · simp
    · simp
  · simp

theorem markTrmCellS_at (ao : Option Addr) (cap : Nat) (t : List C) (k base : Nat) (w : World) (hm : t.length ≤ 1048576) (hk1 : 1 ≤ k) (hk : k ≤ 4194304) (hA : OwnC w base (.slice ao t.length cap) t) :
    Calls Try.prog 53 #[.slice ao t.length cap, .int .i64 (k : Int)] w fun e w' => ∃ k' : Nat, e = .returned (.int .i64 (k' : Int)) ∧ k' = k + 3 * t.length ∧
      OwnC w' base (.slice ao t.length cap) (marksC t.length k) ∧ w.grownBy w' (Value.slice ao t.length cap).ownBlock := by
  refine (markTrmCellS_any ao cap t k base w hm hk1 hk hA).mono ?_
  rintro e w' ⟨rfl, h⟩
  exact ⟨_, rfl, rfl, h⟩

set_option maxRecDepth 100000 in
set_option maxHeartbeats 2000000 in
theorem FnExactSubFull_walk (ao : Option Addr) (cap : Nat) (s : List B) (bo : Option Addr) (cp : Nat) (t : List C) (w : World) (hm : s.length ≤ maxLen) (hA : RowB w ao s) (hF : FitB s) (hmt : t.length ≤ maxLen) (hT : Row w bo t) (hFt : Fit t) (hwt : WfC t) :
    Calls Try.prog 21 #[.slice ao s.length cap, .slice bo t.length cp] w fun e w' => e = .returned (.bool true) ∧ Below w.heap.size w w' := by
  clear hwt
  go_enter Try.func21, Try.ntmps21
  go_wp2_with fail
  refine (szSubBindS_any ao cap s 1048576 _ hm hA hF (by omega) (by omega)).mono ?_
  rintro e w1 ⟨r, rfl, hr, hb1⟩
  by_cases hr0 : r < 0
  · go_wp2
    go_ret
    exact ⟨rfl, hb1⟩
  have hr1 : 0 ≤ r ∧ r ≤ 1048576 := by omega
  have hlen : s.length + tot s ≤ 1048576 := by omega
  go_wp2_with fail
  refine (szTrmCellS_any bo cp t r _ hmt (hT.below hb1) hFt (by omega) (by omega)).mono ?_
  rintro e w2 ⟨r2, rfl, hr2, hb2⟩
  have hB2 := bstep hb1 hb2
  by_cases hr3 : r2 < 0
  · go_wp2
    go_ret
    exact ⟨rfl, hB2⟩
  have htl : t.length ≤ 1048576 := by omega
  have hlen1 : s.length ≤ 1048576 := by omega
  have hlen2 : ∀ x ∈ s, x.t.length ≤ 1048576 := fun x hx => by have := tot_mem hx; omega
  have hcm : t.length ≤ maxLen := hmt
  have HL2 := hide hlen2
  have HF := hide hF
  have HFT := hide hFt
  clear hr hlen2 hr2 hr1 hF hFt
  go_wp2_with fail
  refine (toSubBindS_any ao cap s _ hlen1 (unhide HL2) (hA.below hB2)).mono ?_
  rintro e w3 ⟨rfl, ho3, hb3⟩
  have hB3 := bstep hB2 hb3
  go_wp2_with fail
  refine (toTrmCellS_any bo cp t _ htl (hT.below hB3)).mono ?_
  rintro e w4 ⟨rfl, ho4, hb4⟩
  have hB4 := bstep hB3 hb4
  have ho3' := ho3.below (Nat.le_refl _) hb4
  go_wp2_with fail
  refine (specSubFull_any _ _ s _ _ t _ hlen1 (by omega) hmt ho3'.row (unhide HF) (row_of_own ho4) (unhide HFT)).mono ?_
  rintro e w5 ⟨v0, hv0, rfl, hb5⟩
  have hB5 := bstep hB4 hb5
  obtain ⟨ao0, cap0, rfl, _⟩ := hv0.shape
  have hfl := fullB_len s t
  have HI := hide (fun (W W' : World) (a1 : Option Addr) (c1 : Nat) (a2 : Option Addr) (hb : RowB W a1 s) (hr : Row W a2 t) => implSubFull_any a1 c1 s a2 t.length t W hlen1 (by omega) (Nat.le_refl _) hmt hb (unhide HF) hr (unhide HFT))
  obtain ⟨z, hz⟩ : ∃ z, z = (fullB s t).getD [] := ⟨_, rfl⟩
  obtain ⟨bb, hbb⟩ : ∃ bb, bb = (fullB s t).isSome := ⟨_, rfl⟩
  unfold FOut at HI
  rw [← hz, ← hbb] at HI
  rw [← hz] at hv0 hfl
  rw [← hz, ← hbb]
  clear hz hbb ho3 ho3' ho4
  have hfl2 : z.length ≤ 1048576 := by omega
  have hzm : z.length ≤ maxLen := by unfold maxLen; omega
  have hne : (bb != bb) = false := by simp
  go_wp2_with fail
  refine (toSubBindS_any ao cap s _ hlen1 (unhide HL2) (hA.below hB5)).mono ?_
  rintro e w6 ⟨rfl, ho6, hb6⟩
  have hB6 := bstep hB5 hb6
  go_wp2_with fail
  refine (toTrmCellS_any bo cp t _ htl (hT.below hB6)).mono ?_
  rintro e w7 ⟨rfl, ho7, hb7⟩
  have hB7 := bstep hB6 hb7
  have hC7 := bstep hb6 hb7
  have hx7 := ho6.below (Nat.le_refl _) hb7
  go_wp2_with fail
  refine (unhide HI _ w7 _ _ _ hx7.row (row_of_own ho7)).mono ?_
  rintro e w8 ⟨v1, hv1, rfl, hb8⟩
  have hB8 := bstep hB7 hb8
  have hC8 := bstep hC7 hb8
  obtain ⟨ao1, cap1, rfl, _⟩ := hv1.shape
  go_wp2_with fail
  refine (eqTrmCellS_any _ _ _ _ z z _ hzm hv1.row (hv0.below hC8).row).mono ?_
  rw [sameS_yes rfl]
  rintro e w9 ⟨rfl, hb9⟩
  have hB9 := bstep hB8 hb9
  have hC9 := bstep hC8 hb9
  go_wp2_with fail
  refine (toSubBindS_any ao cap s _ hlen1 (unhide HL2) (hA.below hB9)).mono ?_
  rintro e w10 ⟨rfl, ho10, hb10⟩
  have hB10 := bstep hB9 hb10
  have hC10 := bstep hC9 hb10
  have hD10 := bstep (bstep hb8 hb9) hb10
  have hx10 := ho6.below (Nat.le_refl _) (bstep hb7 hD10)
  go_wp2_with fail
  refine (eqSubBindS_yes _ _ _ _ s _ hm hx10.row ho10.row).mono ?_
  rintro e w11 ⟨rfl, hb11⟩
  have hB11 := bstep hB10 hb11
  have hC11 := bstep hC10 hb11
  have hD11 := bstep hD10 hb11
  go_wp2_with fail
  refine (toTrmCellS_any bo cp t _ htl (hT.below hB11)).mono ?_
  rintro e w12 ⟨rfl, ho12, hb12⟩
  have hB12 := bstep hB11 hb12
  have hC12 := bstep hC11 hb12
  have hD12 := bstep hD11 hb12
  have hy12 := own_below (toC (n := 0) ho7) hD12
  go_wp2_with fail
  refine (eqTrmCellS_any _ _ _ _ t t _ hmt (OwnC.row hy12) (row_of_own ho12)).mono ?_
  rw [sameS_yes rfl]
  rintro e w13 ⟨rfl, hb13⟩
  have hB13 := bstep hB12 hb13
  have hC13 := bstep hC12 hb13
  have hD13 := bstep hD12 hb13
  have hx13 := ho6.below (Nat.le_refl _) (bstep hb7 hD13)
  have hy13 : OwnC w13 w6.heap.size (.slice (some ⟨w6.heap.size, 0, none⟩) t.length t.length) t := own_below hy12 hb13
  have hg13 := hv1.below (bstep (bstep (bstep (bstep (bstep hb9 hb10) hb11) hb12) hb13) (Below.refl _ _))
  go_wp2_with fail
  refine (markSubBindS_one _ _ _ _ s _ hlen hx13).mono ?_
  rintro e w14 ⟨rfl, hx14, hG14⟩
  have hB14 := Btw.below hB13 hG14 hB5.size
  have hC14 := Btw.below hC13 hG14 (Nat.le_refl _)
  have hy14 : OwnC w14 w6.heap.size (.slice (some ⟨w6.heap.size, 0, none⟩) t.length t.length) t := own_btw hy13 hG14 (.inl (Nat.le_refl _))
  have hg14 : OwnC w14 w7.heap.size (.slice ao1 z.length cap1) z := own_btw hg13 hG14 (.inl hb7.size)
  have hem : 1 ≤ endM s 1 ∧ endM s 1 ≤ 4194304 := by unfold endM; omega
  obtain ⟨em, hem'⟩ : ∃ em, em = endM s 1 := ⟨_, rfl⟩
  rw [← hem'] at hem
  rw [← hem']
  clear hem' hx14
  go_wp2_with fail
  refine (markTrmCellS_at _ _ t em w6.heap.size _ htl hem.1 hem.2 hy14).mono ?_
  rintro e w15 ⟨k15, rfl, _, hy15, hG15⟩
  have hB15 := below_row hB14 hG15 hy14 (by exact hB6.size)
  have hC15 := below_row hC14 hG15 hy14 (by exact hb6.size)
  have hg15 : OwnC w15 w7.heap.size (.slice ao1 z.length cap1) z := own_apart hg14 hG15 (fun k e => .inl (by have := hb7.size; have := ho7.lt k e; omega))
  have hpos : ¬ ((k15 : Int) < 0) := by omega
  go_wp2_with fail
  refine (eqTrmCellS_any _ _ _ _ z z _ hzm hg15.row (hv0.below hC15).row).mono ?_
  rw [sameS_yes rfl]
  rintro e w16 ⟨rfl, hb16⟩
  have hB16 := bstep hB15 hb16
  have hC16 := bstep hC15 hb16
  have hg16 := hg15.below hb16
  go_wp2_with fail
  refine (markTrmCellS_one _ _ z w7.heap.size _ hfl2 hg16).mono ?_
  rintro e w17 ⟨rfl, hg17, hG17⟩
  have hB17 := below_row hB16 hG17 hg16 (by exact hB7.size)
  have hC17 := below_row hC16 hG17 hg16 (by exact hC7.size)
  have hpos2 : ¬ ((1 + 3 * (z.length : Int)) < 0) := by omega
  go_wp2_with fail
  refine (heldTrmCellS_one _ _ z.length _ hfl2 hg17.row).mono ?_
  rintro e w18 ⟨rfl, hb18⟩
  have hB18 := bstep hB17 hb18
  have hC18 := bstep hC17 hb18
  have hg18 := hg17.below hb18
  have hne2 : ((1 + 3 * (z.length : Int)) != (1 + 3 * (z.length : Int))) = false := by simp
  go_wp2_with fail
  refine (toSubBindS_any ao cap s _ hlen1 (unhide HL2) (hA.below hB18)).mono ?_
  rintro e w19 ⟨rfl, ho19, hb19⟩
  have hB19 := bstep hB18 hb19
  have hC19 := bstep hC18 hb19
  go_wp2_with fail
  refine (toTrmCellS_any bo cp t _ htl (hT.below hB19)).mono ?_
  rintro e w20 ⟨rfl, ho20, hb20⟩
  have hB20 := bstep hB19 hb20
  have hC20 := bstep hC19 hb20
  have hx20 := ho19.below (Nat.le_refl _) hb20
  go_wp2_with fail
  refine (unhide HI _ w20 _ _ _ hx20.row (row_of_own ho20)).mono ?_
  rintro e w21 ⟨v2, hv2, rfl, hb21⟩
  have hB21 := bstep hB20 hb21
  have hC21 := bstep hC20 hb21
  obtain ⟨ao2, cap2, rfl, _⟩ := hv2.shape
  go_wp2_with fail
  refine (eqTrmCellS_any _ _ _ _ z z _ hzm hv2.row (hv0.below hC21).row).mono ?_
  rw [sameS_yes rfl]
  rintro e w22 ⟨rfl, hb22⟩
  have hB22 := bstep hB21 hb22
  have hg22 := hg18.below (bstep (bstep (bstep hb19 hb20) hb21) hb22)
  go_wp2_with fail
  refine (heldTrmCellS_one _ _ z.length _ hfl2 hg22.row).mono ?_
  rintro e w23 ⟨rfl, hb23⟩
  have hB23 := bstep hB22 hb23
  go_wp2
  go_ret
  exact ⟨rfl, hB23⟩
end Go.Proofs.Ytddhjafpacgdaaa

/- What is drawn, and that it is a term: a place (l20Leaf). -/
namespace Go.Proofs.Ytddhjafpacgdaaa
open Go.RowKit
set_option linter.unusedVariables false
set_option linter.unusedSimpArgs false

/-- A place that may stand in a term, within bounds. -/
def Dk (c : C) : Prop := Ds c ∧ okC c = true
theorem okC_v {n : Int} (h0 : 0 ≤ n) (h1 : n ≤ 99999) : okC ⟨1, n, ByteArray.mk #[]⟩ = true := by simp [okC, h0, h1]; rfl
theorem okC_n {n : Int} (h0 : -9999 ≤ n) (h1 : n ≤ 9999) : okC ⟨2, n, ByteArray.mk #[]⟩ = true := by simp [okC, h0, h1]; rfl
theorem okC_f {n : Int} {s : ByteArray} (h0 : 0 ≤ n) (h1 : n ≤ 3) (hs : nameB s = true) : okC ⟨3, n, s⟩ = true := by simp [okC, h0, h1, hs]

set_option maxHeartbeats 2000000 in
theorem leaf_ok (R p : Nat) (n : Int) (w : World) (hn : 1 ≤ n) (hn2 : n ≤ 1000) (hp : p ≤ 999999000) (h : Rd w R p) :
    Calls Try.prog 109 #[.pointer (some ⟨R, 0, none⟩), .int .i64 n] w fun e w' => ∃ c : C, e = .returned (.agg #[.int .i64 c.k, .int .i64 c.n, .string c.s]) ∧ Dk c ∧ (c.k = 3 → c.n = 0) ∧ Rd w' R (p + 2) ∧ w.grownBy w' (some R) := by
  have hlt := h.lt
  go_enter Try.func109, Try.ntmps109
  go_wp2_with fail
  refine (pick_any R p 4 _ (by omega) (by omega) (by omega) (h.alloc _)).mono ?_
  rintro e w1 ⟨r, rfl, h0, h1, hR1, hG1⟩
  have hB1 := res_cells hlt hG1
  have hg1 := grown_first hG1
  have hs1 : w.heap.size < w1.heap.size := by have := hG1.size; simp at this; omega
  clear hG1
  have HB1 := hide hB1
  clear hB1
  obtain hr | rfl | rfl : (r = 0 ∨ r = 1) ∨ r = 2 ∨ r = 3 := by omega
  · rcases hr with rfl | rfl
    all_goals
      go_wp2_with fail
      refine (pick_any R (p + 1) n _ hn (by omega) (by omega) hR1).mono ?_
      rintro e w2 ⟨r2, rfl, h20, h21, hR2, hG2⟩
      obtain ⟨q0, q1, q2, f0, f1, f2⟩ := agg_cells ((hG2.block w.heap.size hs1 (by simp; omega)).trans (unhide HB1))
      go_wp2
      exact bodyPost_ret (v := .agg #[.int .i64 1, .int .i64 r2, .string (ByteArray.mk #[])]) (by simp [results, Try.results109, go_sem, q0, q1, q2]) rfl ⟨⟨1, r2, ByteArray.mk #[]⟩, rfl, ⟨ds_mk (by omega) (by omega) (by omega) (by omega) (by decide), okC_v (by omega) (by omega)⟩, by simp, ((hR2.set (by exact hlt) _).set (by exact hlt) _).set (by exact hlt) _, grown_set (grown_set (grown_set (grown_trans hg1 hG2) (Nat.le_refl _) _) (Nat.le_refl _) _) (Nat.le_refl _) _⟩
  · go_wp2_with fail
    refine (pick_any R (p + 1) 6 _ (by omega) (by omega) (by omega) (hR1.alloc _)).mono ?_
    rintro e w2 ⟨r2, rfl, h20, h21, hR2, hG2⟩
    obtain ⟨j, rfl⟩ := Int.eq_ofNat_of_zero_le h20
    have hq := pick_lit (xs := [0, 1, 2, -1, 7, 9999]) hR1.lt hG2 (j := j) (by simp; omega)
    have hx : ∀ x ∈ ([0, 1, 2, -1, 7, 9999] : List Int), -9999 ≤ x ∧ x ≤ 9999 := by decide
    have hx' := hx _ (List.getElem_mem (l := [0, 1, 2, -1, 7, 9999]) (n := j) (by simp; omega))
    obtain ⟨x, hxe⟩ : ∃ x : Int, x = ([0, 1, 2, -1, 7, 9999] : List Int)[j]'(by simp; omega) := ⟨_, rfl⟩
    rw [← hxe] at hq hx'
    clear hxe hx
    obtain ⟨q0, q1, q2, f0, f1, f2⟩ := agg_cells ((hG2.block w.heap.size (by simp; omega) (by simp; omega)).trans ((Below.heap_alloc w1 _ _ hs1).trans (unhide HB1)))
    go_wp2
    exact bodyPost_ret (v := .agg #[.int .i64 2, .int .i64 x, .string (ByteArray.mk #[])]) (by simp [results, Try.results109, go_sem, q0, q1, q2]) rfl ⟨⟨2, x, ByteArray.mk #[]⟩, rfl, ⟨ds_mk (by omega) (by omega) (by omega) (by omega) (by decide), okC_n (by omega) (by omega)⟩, by simp, ((hR2.set (by exact hlt) _).set (by exact hlt) _).set (by exact hlt) _, grown_set (grown_set (grown_set (grown_trans hg1 (grown_first hG2)) (Nat.le_refl _) _) (Nat.le_refl _) _) (Nat.le_refl _) _⟩
  · go_wp2_with fail
    refine (pick_any R (p + 1) 4 _ (by omega) (by omega) (by omega) (hR1.alloc _)).mono ?_
    rintro e w2 ⟨r2, rfl, h20, h21, hR2, hG2⟩
    obtain ⟨j, rfl⟩ := Int.eq_ofNat_of_zero_le h20
    have hq := pick_lits (xs := [ByteArray.mk #[97], ByteArray.mk #[98], ByteArray.mk #[99], ByteArray.mk #[110, 105, 108]]) hR1.lt hG2 (j := j) (by simp; omega)
    have hx : ∀ x ∈ ([ByteArray.mk #[97], ByteArray.mk #[98], ByteArray.mk #[99], ByteArray.mk #[110, 105, 108]] : List ByteArray), x.size ≤ 11 ∧ nameB x = true := by decide
    have hx' := hx _ (List.getElem_mem (l := [ByteArray.mk #[97], ByteArray.mk #[98], ByteArray.mk #[99], ByteArray.mk #[110, 105, 108]]) (n := j) (by simp; omega))
    obtain ⟨x, hxe⟩ : ∃ x : ByteArray, x = ([ByteArray.mk #[97], ByteArray.mk #[98], ByteArray.mk #[99], ByteArray.mk #[110, 105, 108]] : List ByteArray)[j]'(by simp; omega) := ⟨_, rfl⟩
    rw [← hxe] at hq hx'
    clear hxe hx
    obtain ⟨q0, q1, q2, f0, f1, f2⟩ := agg_cells ((hG2.block w.heap.size (by simp; omega) (by simp; omega)).trans ((Below.heap_alloc w1 _ _ hs1).trans (unhide HB1)))
    go_wp2
    exact bodyPost_ret (v := .agg #[.int .i64 3, .int .i64 0, .string x]) (by simp [results, Try.results109, go_sem, q0, q1, q2]) rfl ⟨⟨3, 0, x⟩, rfl, ⟨ds_mk (by omega) (by omega) (by omega) (by omega) hx'.1, okC_f (by omega) (by omega) hx'.2⟩, by simp, ((hR2.set (by exact hlt) _).set (by exact hlt) _).set (by exact hlt) _, grown_set (grown_set (grown_set (grown_trans hg1 (grown_first hG2)) (Nat.le_refl _) _) (Nat.le_refl _) _) (Nat.le_refl _) _⟩
end Go.Proofs.Ytddhjafpacgdaaa
