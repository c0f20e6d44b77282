/- The specification's reader of texts: digits, numbers, one place. -/
import Derived.Test.YthelpghiafbejaaDoorQSX1
import Derived.Test.YthelpghiafbejaaDoorQRR1
namespace Go.Proofs.YthelpghiafbejaaDoor
open Go.RowKit
set_option linter.unusedVariables false
set_option linter.unusedSimpArgs false

theorem scan_end {p : UInt8 → Bool} {l : List UInt8} {a j : Nat} (haj : a ≤ j) (hj : j ≤ l.length) (hx : ∀ b ∈ (l.take j).drop a, p b = true) (he : j = l.length ∨ ∃ h : j < l.length, p l[j] = false) :
    (l.drop a).takeWhile p = (l.take j).drop a ∧ (l.drop a).dropWhile p = l.drop j := by
  have e : l.drop a = (l.take j).drop a ++ l.drop j := by
    conv => lhs; rw [← List.take_append_drop j l]
    rw [List.drop_append_of_le_length (by simp; omega)]
  rw [e]
  refine take_while_stop hx (fun b hb => ?_)
  rcases he with he | ⟨h, he⟩
  · rw [List.drop_eq_nil_of_le (by omega)] at hb; cases hb
  · rw [List.drop_eq_getElem_cons h] at hb
    have := Option.some.inj hb
    rw [← this]; exact he
theorem mkS_cut (l : List UInt8) (a j : Nat) : (mkS l).extract a j = mkS ((l.take j).drop a) := by
  refine bl_inj ?_
  rw [bl_mkS]
  simp [bl, mkS, ByteArray.data_extract, List.drop_take]

set_option maxRecDepth 100000 in
set_option maxHeartbeats 1000000 in
theorem digits_any (l : List UInt8) (a : Nat) (ha : a ≤ l.length) (hl : l.length ≤ 1000000000) (w : World) :
    Calls Tryd.prog 23 #[.string (mkS l), .int .i64 a] w fun e w' => ∃ j : Nat, e = .returned (.int .i64 j) ∧ a ≤ j ∧ j ≤ l.length ∧ ((l.drop a).takeWhile dig = (l.take j).drop a ∧ (l.drop a).dropWhile dig = l.drop j) ∧ w' = w := by
  have hs := mkS_size l
  go_enter Tryd.func23, Tryd.ntmps23
  go_wp2
  go_loopw [5] (fun i wr => ∃ (j : Nat), a ≤ j ∧ j ≤ l.length ∧ i = .int .i64 j ∧ (∀ b ∈ (l.take j).drop a, dig b = true) ∧ wr = w) (fun i _ => l.length - (intOf i).toNat)
  case atStart => exact ⟨a, Nat.le_refl _, ha, rfl, fun b hb => (by rw [List.drop_eq_nil_of_le (by simp; omega)] at hb; cases hb), rfl⟩
  case round =>
    obtain ⟨j, haj, hj, rfl, hx, hwr⟩ := hrel
    subst hwr
    have HX := hide hx
    clear hx
    by_cases hlt : j < l.length
    · have hget : (mkS l).data[j]? = some l[j] := by simp [mkS, hlt]
      have hget2 : (mkS l)[j]'(by rw [hs]; exact hlt) = l[j] := by
        show (mkS l).data[j]'_ = _
        simp [mkS]
      obtain ⟨c, hc⟩ : ∃ c, c = l[j] := ⟨_, rfl⟩
      rw [← hc] at hget hget2
      have HCE := hide hc
      clear hc
      have HNO := hide (fun (hp : dig c = false) => scan_end (p := dig) haj (by omega : j ≤ l.length) (unhide HX) (.inr ⟨hlt, by rw [← unhide HCE]; exact hp⟩))
      have HB := hide (show dig c = (decide (48 ≤ (c.toNat : Int)) && decide ((c.toNat : Int) ≤ 57)) from dig_bool c)
      by_cases h1 : 48 ≤ (c.toNat : Int)
      · by_cases h2 : (c.toNat : Int) ≤ 57
        · have hp : dig c = true := by rw [unhide HB]; simp [h1, h2]
          have HP := hide hp
          clear hp
          go_wp2
          go_roundw
          case rel =>
            refine ⟨j + 1, by omega, by omega, by go_num, fun b hb => ?_, by first | rfl | trivial⟩
            rw [List.take_succ_eq_append_getElem hlt, List.drop_append_of_le_length (by simp; omega), List.mem_append] at hb
            rcases hb with hb | hb
            · exact unhide HX b hb
            · simp only [List.mem_singleton] at hb
              rw [hb, ← unhide HCE]; exact unhide HP
          case measure => simp [intOf]; omega
        · have hp : dig c = false := by rw [unhide HB]; simp [h2]
          have HE := hide (unhide HNO hp)
          have h2' : ¬ (c.toNat : Int) ≤ 57 := h2
          clear hp HNO
          go_wp2
          go_ret
          exact ⟨j, rfl, haj, hj, unhide HE, rfl⟩
      · have hp : dig c = false := by rw [unhide HB]; simp [h1]
        have HE := hide (unhide HNO hp)
        have h1' : ¬ 48 ≤ (c.toNat : Int) := h1
        clear hp HNO
        go_wp2
        go_ret
        exact ⟨j, rfl, haj, hj, unhide HE, rfl⟩
    · have HE := hide (scan_end (p := dig) haj (by omega : j ≤ l.length) (unhide HX) (.inl (by omega)))
      go_wp2
      go_ret
      exact ⟨j, rfl, haj, hj, unhide HE, rfl⟩

set_option maxRecDepth 100000 in
set_option maxHeartbeats 1000000 in
theorem num_any (d : List UInt8) (hd : ∀ b ∈ d, dig b = true) (hl : d.length ≤ 1000000000) (w : World) :
    Calls Tryd.prog 24 #[.string (mkS d)] w fun e w' => e = .returned (.int .i64 (spNum d)) ∧ w' = w := by
  have hs := mkS_size d
  by_cases h0 : d.length = 0
  · have hn : spNum d = -1 := by unfold spNum; rw [if_pos (.inl h0)]
    rw [hn]
    have hs0 : (mkS d).size = 0 := by omega
    go_enter Tryd.func24, Tryd.ntmps24
    go_wp2
    go_ret
    exact ⟨rfl, rfl⟩
  by_cases h5 : 5 < d.length
  · have hn : spNum d = -1 := by unfold spNum; rw [if_pos (.inr h5)]
    rw [hn]
    go_enter Tryd.func24, Tryd.ntmps24
    go_wp2
    go_ret
    exact ⟨rfl, rfl⟩
  have hn : spNum d = spVal d := by unfold spNum; rw [if_neg (by omega)]
  rw [hn]
  have hval : ∀ k, k ≤ d.length → 0 ≤ spVal (d.take k) ∧ spVal (d.take k) < 10 ^ k := by
    intro k
    induction k with
    | zero => intro _; simp [spVal]
    | succ k ih =>
      intro hk
      have := ih (by omega)
      have hb := (dig_iff _).1 (hd d[k] (List.getElem_mem (by omega)))
      rw [List.take_succ_eq_append_getElem (by omega), spVal_snoc, Int.pow_succ]
      omega
  have hz1 : ((d.length : Int) == 0) = false := beq_eq_false_iff_ne.2 (by omega)
  have hz2 : ¬ (5 < (d.length : Int)) := by omega
  have hz3 : ¬ ((d.length : Int) > 5) := by omega
  have hz4 : ¬ (d.length = 0) := h0
  have HV := hide hval
  have HD := hide hd
  clear hval hd hn
  go_enter Tryd.func24, Tryd.ntmps24
  go_wp2
  go_loopw [3, 4] (fun n i wr => ∃ (k : Nat), k ≤ d.length ∧ i = .int .i64 k ∧ n = .int .i64 (spVal (d.take k)) ∧ wr = w) (fun _ i _ => d.length - (intOf i).toNat)
  case atStart => exact ⟨0, Nat.zero_le _, rfl, rfl, rfl⟩
  case round =>
    obtain ⟨k, hk, rfl, rfl, hwr⟩ := hrel
    subst hwr
    by_cases hlt : k < d.length
    · have hget : (mkS d).data[k]? = some d[k] := by simp [mkS, hlt]
      have hget2 : (mkS d)[k]'(by rw [hs]; exact hlt) = d[k] := by
        show (mkS d).data[k]'_ = _
        simp [mkS]
      have hb := (dig_iff _).1 (unhide HD d[k] (List.getElem_mem hlt))
      have hv := unhide HV k hk
      have hstep : spVal (d.take (k + 1)) = spVal (d.take k) * 10 + ((d[k].toNat : Int) - 48) := by rw [List.take_succ_eq_append_getElem hlt, spVal_snoc]
      have hk5 : (10 : Int) ^ k ≤ 10000 := by
        rcases (show k = 0 ∨ k = 1 ∨ k = 2 ∨ k = 3 ∨ k = 4 by omega) with rfl | rfl | rfl | rfl | rfl <;> decide
      obtain ⟨c, hc⟩ : ∃ c, c = d[k] := ⟨_, rfl⟩
      rw [← hc] at hget hget2 hb hstep
      obtain ⟨m, hm⟩ : ∃ m, m = spVal (d.take k) := ⟨_, rfl⟩
      rw [← hm] at hv hstep ⊢
      have HST := hide hstep
      clear hc hm hstep
      have w1 : IntKind.i64.wrap (m * 10) = m * 10 := by simp [IntKind.wrap, IntKind.bits, IntKind.signed]; omega
      have w2 : IntKind.u8.wrap ((c.toNat : Int) - 48) = (c.toNat : Int) - 48 := by simp [IntKind.wrap, IntKind.bits, IntKind.signed]; omega
      have w4 : IntKind.i64.wrap ((c.toNat : Int) - 48) = (c.toNat : Int) - 48 := by simp [IntKind.wrap, IntKind.bits, IntKind.signed]; omega
      have w3 : IntKind.i64.wrap (m * 10 + ((c.toNat : Int) - 48)) = m * 10 + ((c.toNat : Int) - 48) := by simp [IntKind.wrap, IntKind.bits, IntKind.signed]; omega
      go_wp2
      go_roundw
      case rel => exact ⟨k + 1, by omega, by go_num, by rw [unhide HST], by first | rfl | trivial⟩
      case measure => simp [intOf]; omega
    · have hkd : k = d.length := by omega
      subst hkd
      rw [List.take_length]
      go_wp2
      go_ret
      exact ⟨rfl, rfl⟩
end Go.Proofs.YthelpghiafbejaaDoor
