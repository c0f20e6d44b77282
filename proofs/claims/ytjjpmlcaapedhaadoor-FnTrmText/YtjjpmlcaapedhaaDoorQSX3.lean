/- The specification's reader of texts: one place. -/
import Derived.Test.YtjjpmlcaapedhaaDoorQSX2
namespace Go.Proofs.YtjjpmlcaapedhaaDoor
open Go.RowKit
set_option linter.unusedVariables false
set_option linter.unusedSimpArgs false

/-- One place of a text from a place on. -/
def TookS (l : List UInt8) (a : Nat) (w : World) (e : Ending) (w' : World) : Prop := ∃ (c : C) (j : Nat), e = .returned (.tuple #[.agg #[.int .i64 c.k, .int .i64 c.n, .string c.s], .int .i64 j]) ∧ a ≤ j ∧ j ≤ l.length ∧ spWord (l.drop a) = (c, l.drop j) ∧ Below w.heap.size w w'

theorem spNum_bound {d : List UInt8} (hd : ∀ b ∈ d, dig b = true) : -1 ≤ spNum d ∧ spNum d < 100000 := by
  unfold spNum
  split
  · omega
  · rename_i h
    have hval : ∀ k, k ≤ d.length → 0 ≤ spVal (d.take k) ∧ spVal (d.take k) < 10 ^ k := by
      intro k
      induction k with
      | zero => intro _; simp [spVal]
      | succ k ih =>
        intro hk
        have := ih (by omega)
        have hb := (dig_iff _).1 (hd d[k] (List.getElem_mem (by omega)))
        rw [List.take_succ_eq_append_getElem (by omega), spVal_snoc, Int.pow_succ]
        omega
    have h1 := hval d.length (Nat.le_refl _)
    rw [List.take_length] at h1
    have h2 : (10 : Int) ^ d.length ≤ 100000 := by
      rcases (show d.length = 1 ∨ d.length = 2 ∨ d.length = 3 ∨ d.length = 4 ∨ d.length = 5 by omega) with e | e | e | e | e <;> rw [e] <;> decide
    omega

set_option maxRecDepth 100000 in
set_option maxHeartbeats 2000000 in
theorem l1Take_any (l : List UInt8) (a : Nat) (ha' : a < l.length) (hl : l.length ≤ 1000000000) (w : World) :
    Calls Tryd.prog 24 #[.string (mkS l), .int .i64 a] w (TookS l a w) := by
  have hs := mkS_size l
  have ha : a ≤ l.length := by omega
  have hget : (mkS l).data[a]? = some l[a] := by simp [mkS, ha']
  have hget2 : (mkS l)[a]'(by rw [hs]; exact ha') = l[a] := by
    show (mkS l).data[a]'_ = _
    simp [mkS]
  have hdr : l.drop a = l[a] :: l.drop (a + 1) := List.drop_eq_getElem_cons ha'
  obtain ⟨b, hb⟩ : ∃ b, b = l[a] := ⟨_, rfl⟩
  rw [← hb] at hget hget2 hdr
  clear hb
  have HW := hide (show spWord (l.drop a) = _ from by rw [hdr, spWord_cons])
  have HDR := hide hdr
  clear hdr
  go_enter Tryd.func24, Tryd.ntmps24
  by_cases h1 : (b.toNat : Int) = 88
  · have hb1 : b = 88 := UInt8.toNat_inj.1 (by rw [show (88 : UInt8).toNat = 88 from rfl]; omega)
    have HX := hide (fun (W : World) => (show Calls Tryd.prog 42 #[.string (mkS l), .int .i64 ((a : Int) + 1)] W _ from digits_any l (a + 1) (by omega) hl W))
    go_wp2_with fail
    refine (unhide HX _).mono ?_
    rintro e w1 ⟨j, rfl, haj, hj, ⟨ht, hd⟩, rfl⟩
    have hall : ∀ c ∈ (l.take j).drop (a + 1), dig c = true := by
      rw [← ht]
      have := List.all_takeWhile (p := dig) (l := l.drop (a + 1))
      rwa [List.all_eq_true] at this
    have HN := hide (fun (W : World) => num_any ((l.take j).drop (a + 1)) hall (by simp; omega) W)
    have hcut : (mkS l).extract (a + 1) j = mkS ((l.take j).drop (a + 1)) := mkS_cut l (a + 1) j
    have hbd := spNum_bound hall
    have q1 : (0 : Int) ≤ ((a : Int) + 1) := by omega
    have q2 : ((a : Int) + 1) ≤ (j : Int) := by omega
    have q3 : (j : Int) ≤ ((mkS l).size : Int) := by omega
    have q4 : ((a : Int) + 1).toNat = (a + 1) := by omega
    have q5 : (j : Int) ≤ (l.length : Int) := by omega
    have e1 : spWord (l.drop a) = (⟨1, spNum ((l.take j).drop (a + 1)), ByteArray.empty⟩, l.drop j) := by rw [unhide HW, if_pos hb1, ht, hd]
    have HE := hide e1
    clear e1
    go_wp2_with fail
    refine (unhide HN _).mono ?_
    rintro e w2 ⟨rfl, rfl⟩
    generalize spNum ((l.take j).drop (a + 1)) = n at HE hbd ⊢
    have hneg : IntKind.i64.wrap (-n) = -n := by simp [IntKind.wrap, IntKind.bits, IntKind.signed]; omega
    have FIN : Hid (TookS l a w (.returned (.tuple #[.agg #[.int .i64 1, .int .i64 (n), .string ByteArray.empty], .int .i64 j])) (w.alloc (.cells #[.int .i64 1, .int .i64 (n), .string ByteArray.empty] 49))) := ⟨⟨1, n, ByteArray.empty⟩, j, rfl, by omega, hj, unhide HE, cell_below _ _⟩
    clear ht hd hall hcut HN HX HW HDR HE
    go_wp2
    exact bodyPost_ret (v := .tuple #[.agg #[.int .i64 1, .int .i64 (n), .string ByteArray.empty], .int .i64 j]) (by simp [results, Tryd.results24, go_sem]; try rfl) rfl (unhide FIN)
  · have hb1 : ¬ b = 88 := fun e => h1 (by rw [e]; rfl)
    by_cases h2 : (b.toNat : Int) = 45
    · have hb2 : b = 45 := UInt8.toNat_inj.1 (by rw [show (45 : UInt8).toNat = 45 from rfl]; omega)
      have HX := hide (fun (W : World) => (show Calls Tryd.prog 42 #[.string (mkS l), .int .i64 ((a : Int) + 1)] W _ from digits_any l (a + 1) (by omega) hl W))
      go_wp2_with fail
      refine (unhide HX _).mono ?_
      rintro e w1 ⟨j, rfl, haj, hj, ⟨ht, hd⟩, rfl⟩
      have hall : ∀ c ∈ (l.take j).drop (a + 1), dig c = true := by
        rw [← ht]
        have := List.all_takeWhile (p := dig) (l := l.drop (a + 1))
        rwa [List.all_eq_true] at this
      have HN := hide (fun (W : World) => num_any ((l.take j).drop (a + 1)) hall (by simp; omega) W)
      have hcut : (mkS l).extract (a + 1) j = mkS ((l.take j).drop (a + 1)) := mkS_cut l (a + 1) j
      have hbd := spNum_bound hall
      have q1 : (0 : Int) ≤ ((a : Int) + 1) := by omega
      have q2 : ((a : Int) + 1) ≤ (j : Int) := by omega
      have q3 : (j : Int) ≤ ((mkS l).size : Int) := by omega
      have q4 : ((a : Int) + 1).toNat = (a + 1) := by omega
      have q5 : (j : Int) ≤ (l.length : Int) := by omega
      have e1 : spWord (l.drop a) = (⟨2, -spNum ((l.take j).drop (a + 1)), ByteArray.empty⟩, l.drop j) := by rw [unhide HW, if_neg hb1, if_pos hb2, ht, hd]
      have HE := hide e1
      clear e1
      go_wp2_with fail
      refine (unhide HN _).mono ?_
      rintro e w2 ⟨rfl, rfl⟩
      generalize spNum ((l.take j).drop (a + 1)) = n at HE hbd ⊢
      have hneg : IntKind.i64.wrap (-n) = -n := by simp [IntKind.wrap, IntKind.bits, IntKind.signed]; omega
      have FIN : Hid (TookS l a w (.returned (.tuple #[.agg #[.int .i64 2, .int .i64 (-n), .string ByteArray.empty], .int .i64 j])) (w.alloc (.cells #[.int .i64 2, .int .i64 (-n), .string ByteArray.empty] 49))) := ⟨⟨2, -n, ByteArray.empty⟩, j, rfl, by omega, hj, unhide HE, cell_below _ _⟩
      clear ht hd hall hcut HN HX HW HDR HE
      go_wp2
      exact bodyPost_ret (v := .tuple #[.agg #[.int .i64 2, .int .i64 (-n), .string ByteArray.empty], .int .i64 j]) (by simp [results, Tryd.results24, go_sem]; try rfl) rfl (unhide FIN)
    · have hb2 : ¬ b = 45 := fun e => h2 (by rw [e]; rfl)
      by_cases hdg : 48 ≤ (b.toNat : Int) ∧ (b.toNat : Int) ≤ 57
      · obtain ⟨h3, h4⟩ := hdg
        have hb3 : dig b = true := by rw [dig_bool]; simp [h3, h4]
        have HX := hide (fun (W : World) => (show Calls Tryd.prog 42 #[.string (mkS l), .int .i64 a] W _ from digits_any l a (by omega) hl W))
        go_wp2_with fail
        refine (unhide HX _).mono ?_
        rintro e w1 ⟨j, rfl, haj, hj, ⟨ht, hd⟩, rfl⟩
        have hall : ∀ c ∈ (l.take j).drop a, dig c = true := by
          rw [← ht]
          have := List.all_takeWhile (p := dig) (l := l.drop a)
          rwa [List.all_eq_true] at this
        have HN := hide (fun (W : World) => num_any ((l.take j).drop a) hall (by simp; omega) W)
        have hcut : (mkS l).extract a j = mkS ((l.take j).drop a) := mkS_cut l a j
        have hbd := spNum_bound hall
        have q1 : (0 : Int) ≤ a := by omega
        have q2 : a ≤ (j : Int) := by omega
        have q3 : (j : Int) ≤ ((mkS l).size : Int) := by omega
        have q4 : (a : Int).toNat = a := by omega
        have q5 : (j : Int) ≤ (l.length : Int) := by omega
        have e1 : spWord (l.drop a) = (⟨2, spNum ((l.take j).drop a), ByteArray.empty⟩, l.drop j) := by rw [unhide HW, if_neg hb1, if_neg hb2, if_pos hb3, ← unhide HDR, ht, hd]
        have HE := hide e1
        clear e1
        go_wp2_with fail
        refine (unhide HN _).mono ?_
        rintro e w2 ⟨rfl, rfl⟩
        generalize spNum ((l.take j).drop a) = n at HE hbd ⊢
        have hneg : IntKind.i64.wrap (-n) = -n := by simp [IntKind.wrap, IntKind.bits, IntKind.signed]; omega
        have FIN : Hid (TookS l a w (.returned (.tuple #[.agg #[.int .i64 2, .int .i64 (n), .string ByteArray.empty], .int .i64 j])) (w.alloc (.cells #[.int .i64 2, .int .i64 (n), .string ByteArray.empty] 49))) := ⟨⟨2, n, ByteArray.empty⟩, j, rfl, by omega, hj, unhide HE, cell_below _ _⟩
        clear ht hd hall hcut HN HX HW HDR HE
        go_wp2
        exact bodyPost_ret (v := .tuple #[.agg #[.int .i64 2, .int .i64 (n), .string ByteArray.empty], .int .i64 j]) (by simp [results, Tryd.results24, go_sem]; try rfl) rfl (unhide FIN)
      · have hb3 : ¬ dig b = true := by rw [dig_bool]; simp; omega
        have hk : ¬ 48 ≤ (b.toNat : Int) ∨ ¬ (b.toNat : Int) ≤ 57 := by omega
        have HB1 := hide hb1
        have HB2 := hide hb2
        have HB3 := hide hb3
        have HWX := hide (show spWord (l.drop a) = _ from by rw [unhide HW, if_neg hb1, if_neg hb2, if_neg hb3, ← unhide HDR])
        clear hb1 hb2 hb3 hdg HW HDR
        rcases hk with hk | hk
        · go_wp2
          go_loopw [10] (fun i wr => ∃ (j : Nat), a ≤ j ∧ j ≤ l.length ∧ i = .int .i64 j ∧ (∀ b ∈ (l.take j).drop a, sml b = true) ∧ wr = (w.alloc (.cells #[.int .i64 0, .int .i64 0, .string { data := #[] }] 49))) (fun i _ => l.length - (intOf i).toNat)
          case atStart => exact ⟨a, Nat.le_refl _, ha, rfl, fun b hb => (by rw [List.drop_eq_nil_of_le (by simp; omega)] at hb; cases hb), rfl⟩
          case round =>
            obtain ⟨j, haj, hj, rfl, hx, hwr⟩ := hrel
            subst hwr
            have HX := hide hx
            clear hx
            by_cases hlt : j < l.length
            · have hget : (mkS l).data[j]? = some l[j] := by simp [mkS, hlt]
              have hget2 : (mkS l)[j]'(by rw [hs]; exact hlt) = l[j] := by
                show (mkS l).data[j]'_ = _
                simp [mkS]
              obtain ⟨c, hc⟩ : ∃ c, c = l[j] := ⟨_, rfl⟩
              rw [← hc] at hget hget2
              have HCE := hide hc
              clear hc
              have HNO := hide (fun (hp : sml c = false) => scan_end (p := sml) haj (by omega : j ≤ l.length) (unhide HX) (.inr ⟨hlt, by rw [← unhide HCE]; exact hp⟩))
              have HB := hide (show sml c = (decide (97 ≤ (c.toNat : Int)) && decide ((c.toNat : Int) ≤ 122)) from sml_bool c)
              by_cases h1 : 97 ≤ (c.toNat : Int)
              · by_cases h2 : (c.toNat : Int) ≤ 122
                · have hp : sml c = true := by rw [unhide HB]; simp [h1, h2]
                  have HP := hide hp
                  clear hp
                  go_wp2
                  go_roundw
                  case rel =>
                    refine ⟨j + 1, by omega, by omega, by go_num, fun b hb => ?_, by first | rfl | trivial⟩
                    rw [List.take_succ_eq_append_getElem hlt, List.drop_append_of_le_length (by simp; omega), List.mem_append] at hb
                    rcases hb with hb | hb
                    · exact unhide HX b hb
                    · simp only [List.mem_singleton] at hb
                      rw [hb, ← unhide HCE]; exact unhide HP
                  case measure => simp [intOf]; omega
                · have hp : sml c = false := by rw [unhide HB]; simp [h2]
                  have HE := hide (unhide HNO hp)
                  have h2' : ¬ (c.toNat : Int) ≤ 122 := h2
                  clear hp HNO
                  go_wp2
                  have hcut : (mkS l).extract a j = mkS ((l.take j).drop a) := mkS_cut l a j
                  have q2 : (a : Int) ≤ (j : Int) := by omega
                  have q3 : (j : Int) ≤ ((mkS l).size : Int) := by omega
                  have q5 : (j : Int) ≤ (l.length : Int) := by omega
                  obtain ⟨e1, e2⟩ := unhide HE
                  have e3 : spWord (l.drop a) = (⟨3, 0, mkS ((l.take j).drop a)⟩, l.drop j) := by rw [unhide HWX, e1, e2]; rfl
                  have FIN : Hid (TookS l a w (.returned (.tuple #[.agg #[.int .i64 3, .int .i64 0, .string ((mkS l).extract a j)], .int .i64 j])) (w.alloc (.cells #[.int .i64 3, .int .i64 0, .string ((mkS l).extract a j)] 49))) := ⟨⟨3, 0, mkS ((l.take j).drop a)⟩, j, by rw [hcut], haj, hj, e3, cell_below _ _⟩
                  clear e1 e2 e3 HE hcut
                  go_wp2
                  exact bodyPost_ret (v := .tuple #[.agg #[.int .i64 3, .int .i64 (0), .string ((mkS l).extract a j)], .int .i64 j]) (by simp [results, Tryd.results24, go_sem]; try rfl) rfl (unhide FIN)
              · have hp : sml c = false := by rw [unhide HB]; simp [h1]
                have HE := hide (unhide HNO hp)
                have h1' : ¬ 97 ≤ (c.toNat : Int) := h1
                clear hp HNO
                go_wp2
                have hcut : (mkS l).extract a j = mkS ((l.take j).drop a) := mkS_cut l a j
                have q2 : (a : Int) ≤ (j : Int) := by omega
                have q3 : (j : Int) ≤ ((mkS l).size : Int) := by omega
                have q5 : (j : Int) ≤ (l.length : Int) := by omega
                obtain ⟨e1, e2⟩ := unhide HE
                have e3 : spWord (l.drop a) = (⟨3, 0, mkS ((l.take j).drop a)⟩, l.drop j) := by rw [unhide HWX, e1, e2]; rfl
                have FIN : Hid (TookS l a w (.returned (.tuple #[.agg #[.int .i64 3, .int .i64 0, .string ((mkS l).extract a j)], .int .i64 j])) (w.alloc (.cells #[.int .i64 3, .int .i64 0, .string ((mkS l).extract a j)] 49))) := ⟨⟨3, 0, mkS ((l.take j).drop a)⟩, j, by rw [hcut], haj, hj, e3, cell_below _ _⟩
                clear e1 e2 e3 HE hcut
                go_wp2
                exact bodyPost_ret (v := .tuple #[.agg #[.int .i64 3, .int .i64 (0), .string ((mkS l).extract a j)], .int .i64 j]) (by simp [results, Tryd.results24, go_sem]; try rfl) rfl (unhide FIN)
            · have HE := hide (scan_end (p := sml) haj (by omega : j ≤ l.length) (unhide HX) (.inl (by omega)))
              go_wp2
              have hcut : (mkS l).extract a j = mkS ((l.take j).drop a) := mkS_cut l a j
              have q2 : (a : Int) ≤ (j : Int) := by omega
              have q3 : (j : Int) ≤ ((mkS l).size : Int) := by omega
              have q5 : (j : Int) ≤ (l.length : Int) := by omega
              obtain ⟨e1, e2⟩ := unhide HE
              have e3 : spWord (l.drop a) = (⟨3, 0, mkS ((l.take j).drop a)⟩, l.drop j) := by rw [unhide HWX, e1, e2]; rfl
              have FIN : Hid (TookS l a w (.returned (.tuple #[.agg #[.int .i64 3, .int .i64 0, .string ((mkS l).extract a j)], .int .i64 j])) (w.alloc (.cells #[.int .i64 3, .int .i64 0, .string ((mkS l).extract a j)] 49))) := ⟨⟨3, 0, mkS ((l.take j).drop a)⟩, j, by rw [hcut], haj, hj, e3, cell_below _ _⟩
              clear e1 e2 e3 HE hcut
              go_wp2
              exact bodyPost_ret (v := .tuple #[.agg #[.int .i64 3, .int .i64 (0), .string ((mkS l).extract a j)], .int .i64 j]) (by simp [results, Tryd.results24, go_sem]; try rfl) rfl (unhide FIN)
        · go_wp2
          go_loopw [10] (fun i wr => ∃ (j : Nat), a ≤ j ∧ j ≤ l.length ∧ i = .int .i64 j ∧ (∀ b ∈ (l.take j).drop a, sml b = true) ∧ wr = (w.alloc (.cells #[.int .i64 0, .int .i64 0, .string { data := #[] }] 49))) (fun i _ => l.length - (intOf i).toNat)
          case atStart => exact ⟨a, Nat.le_refl _, ha, rfl, fun b hb => (by rw [List.drop_eq_nil_of_le (by simp; omega)] at hb; cases hb), rfl⟩
          case round =>
            obtain ⟨j, haj, hj, rfl, hx, hwr⟩ := hrel
            subst hwr
            have HX := hide hx
            clear hx
            by_cases hlt : j < l.length
            · have hget : (mkS l).data[j]? = some l[j] := by simp [mkS, hlt]
              have hget2 : (mkS l)[j]'(by rw [hs]; exact hlt) = l[j] := by
                show (mkS l).data[j]'_ = _
                simp [mkS]
              obtain ⟨c, hc⟩ : ∃ c, c = l[j] := ⟨_, rfl⟩
              rw [← hc] at hget hget2
              have HCE := hide hc
              clear hc
              have HNO := hide (fun (hp : sml c = false) => scan_end (p := sml) haj (by omega : j ≤ l.length) (unhide HX) (.inr ⟨hlt, by rw [← unhide HCE]; exact hp⟩))
              have HB := hide (show sml c = (decide (97 ≤ (c.toNat : Int)) && decide ((c.toNat : Int) ≤ 122)) from sml_bool c)
              by_cases h1 : 97 ≤ (c.toNat : Int)
              · by_cases h2 : (c.toNat : Int) ≤ 122
                · have hp : sml c = true := by rw [unhide HB]; simp [h1, h2]
                  have HP := hide hp
                  clear hp
                  go_wp2
                  go_roundw
                  case rel =>
                    refine ⟨j + 1, by omega, by omega, by go_num, fun b hb => ?_, by first | rfl | trivial⟩
                    rw [List.take_succ_eq_append_getElem hlt, List.drop_append_of_le_length (by simp; omega), List.mem_append] at hb
                    rcases hb with hb | hb
                    · exact unhide HX b hb
                    · simp only [List.mem_singleton] at hb
                      rw [hb, ← unhide HCE]; exact unhide HP
                  case measure => simp [intOf]; omega
                · have hp : sml c = false := by rw [unhide HB]; simp [h2]
                  have HE := hide (unhide HNO hp)
                  have h2' : ¬ (c.toNat : Int) ≤ 122 := h2
                  clear hp HNO
                  go_wp2
                  have hcut : (mkS l).extract a j = mkS ((l.take j).drop a) := mkS_cut l a j
                  have q2 : (a : Int) ≤ (j : Int) := by omega
                  have q3 : (j : Int) ≤ ((mkS l).size : Int) := by omega
                  have q5 : (j : Int) ≤ (l.length : Int) := by omega
                  obtain ⟨e1, e2⟩ := unhide HE
                  have e3 : spWord (l.drop a) = (⟨3, 0, mkS ((l.take j).drop a)⟩, l.drop j) := by rw [unhide HWX, e1, e2]; rfl
                  have FIN : Hid (TookS l a w (.returned (.tuple #[.agg #[.int .i64 3, .int .i64 0, .string ((mkS l).extract a j)], .int .i64 j])) (w.alloc (.cells #[.int .i64 3, .int .i64 0, .string ((mkS l).extract a j)] 49))) := ⟨⟨3, 0, mkS ((l.take j).drop a)⟩, j, by rw [hcut], haj, hj, e3, cell_below _ _⟩
                  clear e1 e2 e3 HE hcut
                  go_wp2
                  exact bodyPost_ret (v := .tuple #[.agg #[.int .i64 3, .int .i64 (0), .string ((mkS l).extract a j)], .int .i64 j]) (by simp [results, Tryd.results24, go_sem]; try rfl) rfl (unhide FIN)
              · have hp : sml c = false := by rw [unhide HB]; simp [h1]
                have HE := hide (unhide HNO hp)
                have h1' : ¬ 97 ≤ (c.toNat : Int) := h1
                clear hp HNO
                go_wp2
                have hcut : (mkS l).extract a j = mkS ((l.take j).drop a) := mkS_cut l a j
                have q2 : (a : Int) ≤ (j : Int) := by omega
                have q3 : (j : Int) ≤ ((mkS l).size : Int) := by omega
                have q5 : (j : Int) ≤ (l.length : Int) := by omega
                obtain ⟨e1, e2⟩ := unhide HE
                have e3 : spWord (l.drop a) = (⟨3, 0, mkS ((l.take j).drop a)⟩, l.drop j) := by rw [unhide HWX, e1, e2]; rfl
                have FIN : Hid (TookS l a w (.returned (.tuple #[.agg #[.int .i64 3, .int .i64 0, .string ((mkS l).extract a j)], .int .i64 j])) (w.alloc (.cells #[.int .i64 3, .int .i64 0, .string ((mkS l).extract a j)] 49))) := ⟨⟨3, 0, mkS ((l.take j).drop a)⟩, j, by rw [hcut], haj, hj, e3, cell_below _ _⟩
                clear e1 e2 e3 HE hcut
                go_wp2
                exact bodyPost_ret (v := .tuple #[.agg #[.int .i64 3, .int .i64 (0), .string ((mkS l).extract a j)], .int .i64 j]) (by simp [results, Tryd.results24, go_sem]; try rfl) rfl (unhide FIN)
            · have HE := hide (scan_end (p := sml) haj (by omega : j ≤ l.length) (unhide HX) (.inl (by omega)))
              go_wp2
              have hcut : (mkS l).extract a j = mkS ((l.take j).drop a) := mkS_cut l a j
              have q2 : (a : Int) ≤ (j : Int) := by omega
              have q3 : (j : Int) ≤ ((mkS l).size : Int) := by omega
              have q5 : (j : Int) ≤ (l.length : Int) := by omega
              obtain ⟨e1, e2⟩ := unhide HE
              have e3 : spWord (l.drop a) = (⟨3, 0, mkS ((l.take j).drop a)⟩, l.drop j) := by rw [unhide HWX, e1, e2]; rfl
              have FIN : Hid (TookS l a w (.returned (.tuple #[.agg #[.int .i64 3, .int .i64 0, .string ((mkS l).extract a j)], .int .i64 j])) (w.alloc (.cells #[.int .i64 3, .int .i64 0, .string ((mkS l).extract a j)] 49))) := ⟨⟨3, 0, mkS ((l.take j).drop a)⟩, j, by rw [hcut], haj, hj, e3, cell_below _ _⟩
              clear e1 e2 e3 HE hcut
              go_wp2
              exact bodyPost_ret (v := .tuple #[.agg #[.int .i64 3, .int .i64 (0), .string ((mkS l).extract a j)], .int .i64 j]) (by simp [results, Tryd.results24, go_sem]; try rfl) rfl (unhide FIN)
end Go.Proofs.YtjjpmlcaapedhaaDoor
