import Derived.Test.YtddhjafpacgdaaaQUF3UF4SB4
import Derived.Test.YtddhjafpacgdaaaQW6SB2SB3
import Derived.Test.YtddhjafpacgdaaaQW10W13
import Derived.Test.YtddhjafpacgdaaaQD4SG1
/- The walks of markSubBindS, heldSubBindS. -/
namespace Go.Proofs.Ytddhjafpacgdaaa
open Go.RowKit
set_option linter.unusedVariables false
set_option linter.unusedSimpArgs false

/-- Bindings of which the first j are marked. -/
def midM (s : List B) (j k : Nat) : List B := marksB (s.take j) k ++ s.drop j
theorem midM_length (s : List B) {j : Nat} (k : Nat) (h : j ≤ s.length) : (midM s j k).length = s.length := by simp [midM, marksB_length]; omega
theorem midM_get {s : List B} {j : Nat} (k : Nat) (h : j < s.length) : (midM s j k)[j]'(by rw [midM_length s k (by omega)]; exact h) = s[j] := by
  unfold midM
  rw [List.getElem_append_right (by simp [marksB_length]; omega)]
  simp [marksB_length, Nat.min_eq_left (Nat.le_of_lt h)]
theorem midM_step {s : List B} {j : Nat} (k : Nat) (h : j < s.length) : (midM s j k).set j ⟨(endM (s.take j) k : Nat), marksC s[j].t.length (endM (s.take j) k + 1)⟩ = midM s (j + 1) k := by
  unfold midM
  have hl : (marksB (s.take j) k).length = j := by rw [marksB_length]; simp; omega
  rw [List.set_append_right _ _ (by omega), hl, Nat.sub_self, List.drop_eq_getElem_cons h, List.set_cons_zero, List.take_succ_eq_append_getElem h, marksB_snoc, List.append_assoc]
  rfl

/-- What is known at a round's beginning. -/
theorem markB_begin {w wr : World} {lo hi g cap k j : Nat} {s : List B} (hj : j < s.length) (h : OwnB wr lo hi (.slice (some ⟨g, 0, none⟩) s.length cap) (midM s j k)) (hB : Btw lo hi w wr) :
    (∃ a, wr.cell? ⟨g, j * 2, none⟩ = some a) ∧ wr.frozen? ⟨g, j * 2, none⟩ = false ∧ ∃ ao cp, (wr.setCell ⟨g, j * 2, none⟩ (.int .i64 (endM (s.take j) k : Nat))).cell? ⟨g, j * 2 + 1, none⟩ = some (.slice ao s[j].t.length cp) ∧
      OwnC (wr.setCell ⟨g, j * 2, none⟩ (.int .i64 (endM (s.take j) k : Nat))) lo (.slice ao s[j].t.length cp) s[j].t ∧
      ∀ (w2 : World), OwnC w2 lo (.slice ao s[j].t.length cp) (marksC s[j].t.length (endM (s.take j) k + 1)) → (wr.setCell ⟨g, j * 2, none⟩ (.int .i64 (endM (s.take j) k : Nat))).grownBy w2 (Value.slice ao s[j].t.length cp).ownBlock →
        OwnB w2 lo hi (.slice (some ⟨g, 0, none⟩) s.length cap) (midM s (j + 1) k) ∧ Btw lo hi w w2 := by
  have hlen := midM_length s k (Nat.le_of_lt hj)
  have hjm : j < (midM s j k).length := by rw [hlen]; exact hj
  rw [← hlen] at h
  obtain ⟨q1, q2, q3, q4⟩ := h.set_var hjm (endM (s.take j) k : Nat)
  refine ⟨q1, q2, ?_⟩
  have hjs : j < ((midM s j k).set j ⟨(endM (s.take j) k : Nat), (midM s j k)[j].t⟩).length := by simpa using hjm
  obtain ⟨ao', cap', e, _, _, hR⟩ := q3.shape
  simp only [Value.slice.injEq] at e
  obtain ⟨rfl, _, rfl⟩ := e
  rcases hR with hR | ⟨b, off, e, hAt⟩
  · rw [hR] at hjs; simp at hjs
  simp only [Option.some.injEq, Addr.mk.injEq] at e
  obtain ⟨rfl, rfl, _⟩ := e
  obtain ⟨_, ao, cp, c1, _⟩ := hAt j hjs
  have et : (((midM s j k).set j ⟨(endM (s.take j) k : Nat), (midM s j k)[j].t⟩)[j]'hjs).t = s[j].t := by rw [List.getElem_set_self]; simp only [midM_get k hj]
  have ev : (((midM s j k).set j ⟨(endM (s.take j) k : Nat), (midM s j k)[j].t⟩)[j]'hjs).v = (endM (s.take j) k : Nat) := by rw [List.getElem_set_self]
  obtain ⟨r1, r2⟩ := q3.set_term (t := marksC s[j].t.length (endM (s.take j) k + 1)) (w' := wr) hjs (by rw [marksC_length, et]) (by simpa using c1)
  rw [et] at r1 r2 c1
  refine ⟨ao, cp, by simpa using c1, r1, fun w2 h1 h2 => ?_⟩
  obtain ⟨z1, z2⟩ := r2 h1 h2
  refine ⟨?_, hB.trans (q4.trans z2)⟩
  rw [ev, List.set_set, midM_step k hj, midM_length s k (by omega)] at z1
  exact z1

set_option maxRecDepth 100000 in
set_option maxHeartbeats 1000000 in
theorem markSubBindS_some (g cap lo hi : Nat) (s : List B) (k : Nat) (w : World) (hm : s.length + tot s ≤ 1048576) (hk1 : 1 ≤ k) (hk : k ≤ 16) (hA : OwnB w lo hi (.slice (some ⟨g, 0, none⟩) s.length cap) s) :
    Calls Try.prog 58 #[.slice (some ⟨g, 0, none⟩) s.length cap, .int .i64 k] w fun e w' => e = .returned (.int .i64 ((endM s k : Nat) : Int)) ∧
      OwnB w' lo hi (.slice (some ⟨g, 0, none⟩) s.length cap) (marksB s k) ∧ Btw lo hi w w' := by
  go_enter Try.func58, Try.ntmps58
  go_wp2
  go_loopw [1, 5] (fun m i wr => ∃ (j e : Nat), j ≤ s.length ∧ i = .int .i64 j ∧ m = .int .i64 (e : Int) ∧ e = endM (s.take j) k ∧ OwnB wr lo hi (.slice (some ⟨g, 0, none⟩) s.length cap) (midM s j k) ∧ Btw lo hi w wr) (fun _ i _ => s.length - (intOf i).toNat)
  case atStart => exact ⟨0, k, Nat.zero_le _, rfl, rfl, by simp [endM, tot], by simpa [midM, marksB] using hA, Btw.refl _ _ _⟩
  case round =>
    obtain ⟨j, e, hj, rfl, rfl, he, hown, hB⟩ := hrel
    have hel : e ≤ 4194303 := by
      rw [he]; unfold endM
      have h1 := tot_take_le s j
      have h2 : (s.take j).length ≤ s.length := by simp; omega
      omega
    have he1 : 1 ≤ e := by rw [he]; unfold endM; omega
    by_cases hlt : j < s.length
    · obtain ⟨⟨u, d0⟩, f0, ao, cp, d1, ho, R⟩ := markB_begin hlt hown hB
      have hml : s[j].t.length ≤ 1048576 := by have := tot_mem (List.getElem_mem hlt); omega
      have HE : Hid (endM (s.take (j + 1)) k = e + 1 + 3 * s[j].t.length) := by show endM (s.take (j + 1)) k = _; rw [List.take_succ_eq_append_getElem hlt, endM_snoc, he]
      rw [← he] at d1 ho R
      have HOUT := hide he
      have HR := hide R
      have HO := hide ho
      clear R ho hown he
      obtain ⟨n, hn⟩ : ∃ n, n = s[j].t.length := ⟨_, rfl⟩
      obtain ⟨t, ht⟩ : ∃ t, t = s[j].t := ⟨_, rfl⟩
      rw [← ht] at HO HR HE d1 hml
      clear hn ht
      go_wp2_with fail
      refine (markTrmCellS_any ao cp t (e + 1) lo _ hml (by omega) (by omega) (unhide HO)).mono ?_
      rintro e' w2 ⟨rfl, h1, h2⟩
      obtain ⟨z1, z2⟩ := unhide HR _ h1 h2
      have HZ := hide z1
      clear z1 h1 h2 d0 d1 f0 HR HO
      go_wp2
      go_roundw
      case rel => exact ⟨j + 1, e + 1 + 3 * t.length, by omega, by go_num, by go_num, (unhide HE).symm, unhide HZ, z2⟩
      case measure => simp [intOf]; omega
    · have ej : j = s.length := by omega
      subst ej
      rw [List.take_length] at he
      go_wp2
      go_ret
      refine ⟨ret_int (by rw [he]), ?_, hB⟩
      simpa [midM] using hown

set_option maxRecDepth 100000 in
set_option maxHeartbeats 400000 in
theorem markSubBindS_none (ao : Option Addr) (cap : Nat) (k : Int) (w : World) :
    Calls Try.prog 58 #[.slice ao 0 cap, .int .i64 k] w fun e w' => e = .returned (.int .i64 k) ∧ w' = w := by
  go_enter Try.func58, Try.ntmps58
  go_wp2
  refine wp_loop_rounds 1 ?_
  rw [rounds_succ]
  go_wp2
  go_ret
  exact ⟨rfl, rfl⟩

theorem markSubBindS_any (ao : Option Addr) (cap lo hi : Nat) (s : List B) (k : Nat) (w : World) (hm : s.length + tot s ≤ 1048576) (hk1 : 1 ≤ k) (hk : k ≤ 16) (hA : OwnB w lo hi (.slice ao s.length cap) s) :
    Calls Try.prog 58 #[.slice ao s.length cap, .int .i64 k] w fun e w' => e = .returned (.int .i64 ((endM s k : Nat) : Int)) ∧
      OwnB w' lo hi (.slice ao s.length cap) (marksB s k) ∧ Btw lo hi w w' := by
  by_cases h0 : s.length = 0
  · have hz : s = [] := List.length_eq_zero_iff.1 h0
    subst hz
    refine (markSubBindS_none ao cap k w).mono ?_
    rintro e w' ⟨rfl, rfl⟩
    exact ⟨ret_int (by simp [endM, tot]), hA, Btw.refl _ _ _⟩
  · have hA' := hA
    obtain ⟨us, _, h2, _⟩ := hA
    rcases h2.2 with ⟨e, hn⟩ | ⟨g, cap', cur, e, _⟩
    · exact absurd hn h0
    · simp only [Value.slice.injEq] at e
      obtain ⟨rfl, _, rfl⟩ := e
      exact markSubBindS_some g cap lo hi s k w hm hk1 hk hA'

theorem markSubBindS_one (ao : Option Addr) (cap lo hi : Nat) (s : List B) (w : World) (hm : s.length + tot s ≤ 1048576) (hA : OwnB w lo hi (.slice ao s.length cap) s) :
    Calls Try.prog 58 #[.slice ao s.length cap, .int .i64 1] w fun e w' => e = .returned (.int .i64 ((endM s 1 : Nat) : Int)) ∧
      OwnB w' lo hi (.slice ao s.length cap) (marksB s 1) ∧ Btw lo hi w w' := markSubBindS_any ao cap lo hi s 1 w hm (by omega) (by omega) hA

set_option maxRecDepth 100000 in
set_option maxHeartbeats 1000000 in
theorem heldSubBindS_some (b off cap : Nat) (s : List B) (k : Nat) (w : World) (hm : s.length + tot s ≤ 1048576) (hk1 : 1 ≤ k) (hk : k ≤ 16) (hA : AtB w b off (marksB s k)) :
    Calls Try.prog 59 #[.slice (some ⟨b, off, none⟩) s.length cap, .int .i64 k] w fun e w' => e = .returned (.int .i64 ((endM s k : Nat) : Int)) ∧ Below w.heap.size w w' := by
  go_enter Try.func59, Try.ntmps59
  go_wp2
  go_loopw [1, 5] (fun m i wr => ∃ (j e : Nat), j ≤ s.length ∧ i = .int .i64 j ∧ m = .int .i64 (e : Int) ∧ e = endM (s.take j) k ∧ Below w.heap.size w wr) (fun _ i _ => s.length - (intOf i).toNat)
  case atStart => exact ⟨0, k, Nat.zero_le _, rfl, rfl, by simp [endM, tot], Below.refl _ _⟩
  case round =>
    obtain ⟨j, e, hj, rfl, rfl, he, hB⟩ := hrel
    have hel : e ≤ 4194303 := by
      rw [he]; unfold endM
      have h1 := tot_take_le s j
      have h2 : (s.take j).length ≤ s.length := by simp; omega
      omega
    have he1 : 1 ≤ e := by rw [he]; unfold endM; omega
    by_cases hlt : j < s.length
    · obtain ⟨d0, ao, cp, d1, _, _, hR⟩ := (hA.below hB) j (by rw [marksB_length]; exact hlt)
      rw [marksB_get s k j hlt] at d0 d1 hR
      simp only [marksC_length] at d0 d1 hR
      have hml : s[j].t.length ≤ 1048576 := by have := tot_mem (List.getElem_mem hlt); omega
      have HE : Hid (endM (s.take (j + 1)) k = e + 1 + 3 * s[j].t.length) := by show endM (s.take (j + 1)) k = _; rw [List.take_succ_eq_append_getElem hlt, endM_snoc, he]
      rw [← he] at d0 hR
      have HOUT := hide he
      have HR := hide hR
      clear he hR
      obtain ⟨n, hn⟩ : ∃ n, n = s[j].t.length := ⟨_, rfl⟩
      rw [← hn] at HR HE d1 hml
      clear hn
      have hbl : b < wr.heap.size := World.block_lt_of_cell? wr ⟨b, _, none⟩ d0
      have hne : ((e : Int) != (e : Int)) = false := by simp
      go_wp2_with fail
      refine (heldTrmCellS_any ao cp n (e + 1) _ hml (by omega) (by omega) (unhide HR)).mono ?_
      rintro e' w2 ⟨rfl, hb2⟩
      clear d0 d1 HR
      have hnn : ¬ (((e + 1 + 3 * n : Nat) : Int) < 0) := by omega
      go_wp2
      go_roundw
      case rel => exact ⟨j + 1, e + 1 + 3 * n, by omega, by go_num, by go_num, (unhide HE).symm, bstep hB hb2⟩
      case measure => simp [intOf]; omega
    · have ej : j = s.length := by omega
      subst ej
      rw [List.take_length] at he
      go_wp2
      go_ret
      exact ⟨ret_int (by rw [he]), hB⟩

set_option maxRecDepth 100000 in
set_option maxHeartbeats 400000 in
theorem heldSubBindS_none (ao : Option Addr) (cap : Nat) (k : Int) (w : World) :
    Calls Try.prog 59 #[.slice ao 0 cap, .int .i64 k] w fun e w' => e = .returned (.int .i64 k) ∧ w' = w := by
  go_enter Try.func59, Try.ntmps59
  go_wp2
  refine wp_loop_rounds 1 ?_
  rw [rounds_succ]
  go_wp2
  go_ret
  exact ⟨rfl, rfl⟩

theorem heldSubBindS_one (ao : Option Addr) (cap : Nat) (s : List B) (w : World) (hm : s.length + tot s ≤ 1048576) (hA : RowB w ao (marksB s 1)) :
    Calls Try.prog 59 #[.slice ao s.length cap, .int .i64 1] w fun e w' => e = .returned (.int .i64 ((endM s 1 : Nat) : Int)) ∧ Below w.heap.size w w' := by
  rcases hA with h | ⟨b, off, rfl, hA⟩
  · have hz : s = [] := by cases s with | nil => rfl | cons x s => simp [marksB] at h
    subst hz
    refine (heldSubBindS_none ao cap 1 w).mono ?_
    rintro e w' ⟨rfl, rfl⟩
    exact ⟨ret_int (by simp [endM, tot]), Below.refl _ _⟩
  · exact heldSubBindS_some b off cap s 1 w hm (by omega) (by omega) hA
end Go.Proofs.Ytddhjafpacgdaaa

/- The walk of the law FnExactTrmFree. -/
namespace Go.Proofs.Ytddhjafpacgdaaa
open Go.RowKit
set_option linter.unusedVariables false
set_option linter.unusedSimpArgs false

theorem toC {w' : World} {base : Nat} {g n : Nat} {t : List C} (h : w'.ownsRow base 36 3 (.slice (some ⟨g, 0, none⟩) t.length t.length) t.length (flat t)) : OwnC w' base (.slice (some ⟨g, 0, none⟩) t.length t.length) t := h

end Go.Proofs.Ytddhjafpacgdaaa

/- The walk of the law FnExactSubGet. -/
namespace Go.Proofs.Ytddhjafpacgdaaa
open Go.RowKit
set_option linter.unusedVariables false
set_option linter.unusedSimpArgs false

theorem own_btw {w w' : World} {base e size n lo hi : Nat} {v : Value} {xs : List Value} (h : w.ownsRow base e size v n xs) (hb : Btw lo hi w w') (hr : hi ≤ base ∨ w.heap.size ≤ lo) : w'.ownsRow base e size v n xs :=
  own_block h (fun k e => hb.block k (h.lt k e).2 (by have := h.lt k e; omega))

set_option maxRecDepth 100000 in
set_option maxHeartbeats 1000000 in
theorem FnExactSubGet_walk (ao : Option Addr) (cap : Nat) (s : List B) (x : Int) (w : World) (hm : s.length ≤ maxLen) (hA : RowB w ao s) (hF : FitB s) (hx : (Lit.int .i64 x).wf = true) :
    Calls Try.prog 19 #[.slice ao s.length cap, .int .i64 x] w fun e w' => e = .returned (.bool true) ∧ Below w.heap.size w w' := by
  go_enter Try.func19, Try.ntmps19
  go_wp2_with fail
  refine (szSubBindS_any ao cap s 1048576 _ hm hA hF (by omega) (by omega)).mono ?_
  rintro e w1 ⟨r, rfl, hr, hb1⟩
  by_cases hr0 : r < 0
  · go_wp2
    go_ret
    exact ⟨rfl, hb1⟩
  have hlen : s.length + tot s ≤ 1048576 := by omega
  have hlen1 : s.length ≤ 1048576 := by omega
  have hlen2 : ∀ x ∈ s, x.t.length ≤ 1048576 := fun x hx => by have := tot_mem hx; omega
  have hfl : (getB s x).length ≤ 1048576 := by
    by_cases h0 : getB s x = []
    · rw [h0]; simp
    · obtain ⟨y, hy, _, e⟩ := getB_mem h0
      rw [← e]; exact hlen2 y hy
  have HL2 := hide hlen2
  clear hr hlen2
  go_wp2_with fail
  refine (toSubBindS_any ao cap s _ hlen1 (unhide HL2) (hA.below hb1)).mono ?_
  rintro e w2 ⟨rfl, ho2, hb2⟩
  have hB2 := bstep hb1 hb2
  go_wp2_with fail
  refine (specSubGet_any _ _ s x _ hlen1 (unhide HL2) ho2.row).mono ?_
  rintro e w3 ⟨v0, rfl, hv0, hb3⟩
  have hB3 := bstep hB2 hb3
  obtain ⟨ao0, cap0, rfl, _⟩ := hv0.shape
  obtain ⟨z, hz⟩ : ∃ z, z = getB s x := ⟨_, rfl⟩
  rw [← hz] at hv0 hfl
  rw [← hz]
  have HZ := hide hz
  clear hz
  have hzm : z.length ≤ maxLen := by unfold maxLen; omega
  go_wp2_with fail
  refine (toSubBindS_any ao cap s _ hlen1 (unhide HL2) (hA.below hB3)).mono ?_
  rintro e w4 ⟨rfl, ho4, hb4⟩
  have hB4 := bstep hB3 hb4
  go_wp2_with fail
  refine (implSubGet_any _ _ s x _ hlen1 (unhide HL2) ho4.row).mono ?_
  rw [← unhide HZ]
  rintro e w5 ⟨v1, rfl, hv1, hb5⟩
  have hB5 := bstep hB4 hb5
  have hC5 := bstep hb4 hb5
  obtain ⟨ao1, cap1, rfl, _⟩ := hv1.shape
  go_wp2_with fail
  refine (eqTrmCellS_any _ _ _ _ z z _ hzm hv1.row (hv0.below hC5).row).mono ?_
  rw [sameS_yes rfl]
  rintro e w6 ⟨rfl, hb6⟩
  have hB6 := bstep hB5 hb6
  have hC6 := bstep hC5 hb6
  go_wp2_with fail
  refine (toSubBindS_any ao cap s _ hlen1 (unhide HL2) (hA.below hB6)).mono ?_
  rintro e w7 ⟨rfl, ho7, hb7⟩
  have hB7 := bstep hB6 hb7
  have hC7 := bstep hC6 hb7
  have hx7 := ho4.below (Nat.le_refl _) (bstep (bstep hb5 hb6) hb7)
  go_wp2_with fail
  refine (eqSubBindS_yes _ _ _ _ s _ hm hx7.row ho7.row).mono ?_
  rintro e w8 ⟨rfl, hb8⟩
  have hB8 := bstep hB7 hb8
  have hC8 := bstep hC7 hb8
  have hx8 := ho4.below (Nat.le_refl _) (bstep (bstep (bstep hb5 hb6) hb7) hb8)
  have hg8 := hv1.below (bstep (bstep hb6 hb7) hb8)
  go_wp2_with fail
  refine (markSubBindS_one _ _ _ _ s _ hlen hx8).mono ?_
  rintro e w9 ⟨rfl, hx9, hG9⟩
  have hB9 := Btw.below hB8 hG9 hB3.size
  have hC9 := Btw.below hC8 hG9 (Nat.le_refl _)
  have hg9 : OwnC w9 w4.heap.size (.slice ao1 z.length cap1) z := own_btw hg8 hG9 (.inl (Nat.le_refl _))
  have hpos : ¬ (((endM s 1 : Nat) : Int) < 0) := by omega
  go_wp2_with fail
  refine (eqTrmCellS_any _ _ _ _ z z _ hzm hg9.row (hv0.below hC9).row).mono ?_
  rw [sameS_yes rfl]
  rintro e w10 ⟨rfl, hb10⟩
  have hB10 := bstep hB9 hb10
  have hC10 := bstep hC9 hb10
  have hg10 := hg9.below hb10
  go_wp2_with fail
  refine (markTrmCellS_one _ _ z w4.heap.size _ hfl hg10).mono ?_
  rintro e w11 ⟨rfl, hg11, hG11⟩
  have hB11 := below_row hB10 hG11 hg10 (by exact hB4.size)
  have hC11 := below_row hC10 hG11 hg10 (by exact hb4.size)
  have hpos2 : ¬ ((1 + 3 * (z.length : Int)) < 0) := by omega
  go_wp2_with fail
  refine (heldTrmCellS_one _ _ z.length _ hfl hg11.row).mono ?_
  rintro e w12 ⟨rfl, hb12⟩
  have hB12 := bstep hB11 hb12
  have hC12 := bstep hC11 hb12
  have hg12 := hg11.below hb12
  have hne2 : ((1 + 3 * (z.length : Int)) != (1 + 3 * (z.length : Int))) = false := by simp
  go_wp2_with fail
  refine (toSubBindS_any ao cap s _ hlen1 (unhide HL2) (hA.below hB12)).mono ?_
  rintro e w13 ⟨rfl, ho13, hb13⟩
  have hB13 := bstep hB12 hb13
  have hC13 := bstep hC12 hb13
  go_wp2_with fail
  refine (implSubGet_any _ _ s x _ hlen1 (unhide HL2) ho13.row).mono ?_
  rw [← unhide HZ]
  rintro e w14 ⟨v2, rfl, hv2, hb14⟩
  have hB14 := bstep hB13 hb14
  have hC14 := bstep hC13 hb14
  obtain ⟨ao2, cap2, rfl, _⟩ := hv2.shape
  go_wp2_with fail
  refine (eqTrmCellS_any _ _ _ _ z z _ hzm hv2.row (hv0.below hC14).row).mono ?_
  rw [sameS_yes rfl]
  rintro e w15 ⟨rfl, hb15⟩
  have hB15 := bstep hB14 hb15
  have hg15 := hg12.below (bstep (bstep hb13 hb14) hb15)
  go_wp2_with fail
  refine (heldTrmCellS_one _ _ z.length _ hfl hg15.row).mono ?_
  rintro e w16 ⟨rfl, hb16⟩
  have hB16 := bstep hB15 hb16
  go_wp2
  go_ret
  exact ⟨rfl, hB16⟩
end Go.Proofs.Ytddhjafpacgdaaa
