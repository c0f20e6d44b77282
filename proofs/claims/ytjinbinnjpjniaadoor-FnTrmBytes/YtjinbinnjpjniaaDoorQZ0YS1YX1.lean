import Derived.Test.YtjinbinnjpjniaaDoorQYB3
import Derived.Test.YtjinbinnjpjniaaDoorQOpenOpen2YM
import Derived.Test.YtjinbinnjpjniaaDoorQMemMem2Mem3W9
import Derived.Test.YtjinbinnjpjniaaDoorQYW1
/- Terms read out of bytes, by lists. -/
namespace Go.Proofs.YtjinbinnjpjniaaDoor
set_option linter.unusedVariables false
set_option linter.unusedSimpArgs false

/-- The text that bytes are. -/
def strOf (z : List Int) : ByteArray := z.foldl (fun r n => r.push (UInt8.ofNat n.toNat)) ByteArray.empty
theorem strOf_size_from : ∀ (z : List Int) (r : ByteArray), (z.foldl (fun r n => r.push (UInt8.ofNat n.toNat)) r).size = r.size + z.length
  | [], r => by simp
  | x :: z, r => by
      rw [List.foldl_cons, strOf_size_from z, ByteArray.size_push, List.length_cons]
      omega
theorem strOf_size (z : List Int) : (strOf z).size = z.length := by
  unfold strOf
  rw [strOf_size_from]
  simp
/-- A number of three bytes, read. -/
def valN (a b c : Int) : Int := a * 65536 + b * 256 + c - 100000
/-- A place, read: it, and what is left. -/
def rdC : List Int → Option (C × List Int)
  | k :: a :: b :: c :: r =>
    if k = 3 then
      match r with
      | l :: s => if l.toNat ≤ s.length then some (⟨3, valN a b c, strOf (s.take l.toNat)⟩, s.drop l.toNat) else none
      | [] => none
    else some (⟨k, valN a b c, ByteArray.empty⟩, r)
  | _ => none
/-- So many places, read. -/
def rdN : Nat → List Int → Option (List C × List Int)
  | 0, y => some ([], y)
  | n + 1, y => match rdC y with
    | some (c, r) => (rdN n r).map fun x => (c :: x.1, x.2)
    | none => none
/-- A term, read: it, and what is left. -/
def rdT : List Int → Option (List C × List Int)
  | [] => none
  | k :: r => match rdN k.toNat r with
    | some (t, r') => if trm t then some (t, r') else none
    | none => none
/-- A term that all the bytes are. -/
def rdAll (y : List Int) : Option (List C) := match rdT y with
  | some (t, []) => some t
  | _ => none

theorem rdC_suffix {y : List Int} {c : C} {r : List Int} (h : rdC y = some (c, r)) : ∃ m, m ≤ y.length ∧ r = y.drop m := by
  unfold rdC at h
  split at h
  · rename_i k a b c' r'
    split at h
    · split at h
      · rename_i l s
        split at h
        · simp only [Option.some.injEq, Prod.mk.injEq] at h
          refine ⟨5 + l.toNat, by simp; omega, ?_⟩
          rw [← h.2, show 5 + l.toNat = l.toNat + 5 by omega]
          simp
        · cases h
      · cases h
    · simp only [Option.some.injEq, Prod.mk.injEq] at h
      exact ⟨4, by simp, by rw [← h.2]; rfl⟩
  · cases h
/-- One place more, at the end. -/
theorem rdN_snoc : ∀ (n : Nat) (y : List Int), rdN (n + 1) y = match rdN n y with
    | some (t, r) => (match rdC r with | some (c, r') => some (t ++ [c], r') | none => none)
    | none => none
  | 0, y => by
      simp only [rdN]
      cases rdC y with
      | none => rfl
      | some x => obtain ⟨c, r⟩ := x; rfl
  | n + 1, y => by
      rw [rdN]
      cases h : rdC y with
      | none => simp [rdN, h]
      | some x =>
        obtain ⟨c, r⟩ := x
        simp only
        rw [rdN_snoc n r]
        conv => rhs; rw [rdN, h]
        cases hn : rdN n r with
        | none => simp [hn]
        | some q =>
          obtain ⟨t, r2⟩ := q
          simp only [Option.map_some, hn]
          cases hc : rdC r2 with
          | none => simp [hc]
          | some q2 => obtain ⟨c2, r3⟩ := q2; simp [hc]
theorem rdN_none {n m : Nat} {y : List Int} (h : rdN n y = none) (hm : n ≤ m) : rdN m y = none := by
  induction m with
  | zero => have : n = 0 := by omega
            subst this; exact h
  | succ m ih =>
    by_cases e : n = m + 1
    · subst e; exact h
    · rw [rdN_snoc, ih (by omega)]
theorem rdN_len : ∀ (n : Nat) (y : List Int) (t : List C) (r : List Int), rdN n y = some (t, r) → t.length = n
  | 0, y, t, r, h => by simp [rdN] at h; obtain ⟨rfl, _⟩ := h; rfl
  | n + 1, y, t, r, h => by
      rw [rdN] at h
      split at h
      · rename_i c r' hc
        cases hn : rdN n r' with
        | none => rw [hn] at h; cases h
        | some x =>
          rw [hn] at h
          simp only [Option.map_some, Option.some.injEq, Prod.mk.injEq] at h
          rw [← h.1, List.length_cons, rdN_len n r' x.1 x.2 (by rw [hn])]
      · cases h
end Go.Proofs.YtjinbinnjpjniaaDoor

/- MsgSum of the program and of the specification. -/
namespace Go.Proofs.YtjinbinnjpjniaaDoor
open Go.RowKit
set_option linter.unusedVariables false
set_option linter.unusedSimpArgs false

/-- A number made of bytes. -/
def sumL (z : List Int) : Int := z.foldl (fun s x => (s * 257 + x) % 65521) 1

theorem sumL_step {z : List Int} {k : Nat} (h : k < z.length) : sumL (z.take (k + 1)) = (sumL (z.take k) * 257 + z[k]) % 65521 := by
  unfold sumL
  rw [List.take_succ_eq_append_getElem h, List.foldl_append]
  rfl
theorem sumL_in_from : ∀ (z : List Int) (s : Int), 0 ≤ s ∧ s ≤ 65520 → 0 ≤ z.foldl (fun s x => (s * 257 + x) % 65521) s ∧ z.foldl (fun s x => (s * 257 + x) % 65521) s ≤ 65520
  | [], s, h => h
  | x :: z, s, h => sumL_in_from z ((s * 257 + x) % 65521) ⟨Int.emod_nonneg _ (by omega), by have := Int.emod_lt_of_pos (s * 257 + x) (show (0 : Int) < 65521 by omega); omega⟩
theorem sumL_in (z : List Int) : 0 ≤ sumL z ∧ sumL z ≤ 65520 := sumL_in_from z 1 (by omega)

theorem tmod_pos {a b : Int} (h : 0 ≤ a) : a.tmod b = a % b := Int.tmod_eq_emod_of_nonneg h

set_option maxHeartbeats 1000000 in
theorem specMsgSum_some (b off cap : Nat) (z : List Int) (w : World) (hm : z.length ≤ maxLen) (hA : AtY w b off z) (hy : ByL z) :
    Calls Tryd.prog 66 #[.slice (some ⟨b, off, none⟩) z.length cap] w fun e w' => e = .returned (.int .i64 (sumL z)) ∧ w' = w := by
  unfold maxLen at hm
  go_enter Tryd.func66, Tryd.ntmps66
  go_wp2
  go_loop [3, 4] (fun m i => ∃ (j : Nat), j ≤ z.length ∧ i = .int .i64 j ∧ m = .int .i64 (sumL (z.take j))) (fun _ i => z.length - (intOf i).toNat)
  case atStart => exact ⟨0, Nat.zero_le _, rfl, rfl⟩
  case round =>
    obtain ⟨j, hj, rfl, rfl⟩ := hrel
    by_cases hlt : j < z.length
    · have d0 := hA j hlt
      have hy0 := hy.get j hlt
      have hs := sumL_in (z.take j)
      have HS := hide (sumL_step hlt)
      obtain ⟨x, hx⟩ : ∃ x, x = z[j] := ⟨_, rfl⟩
      rw [← hx] at d0 hy0 HS
      clear hx
      obtain ⟨s, hs'⟩ : ∃ s, s = sumL (z.take j) := ⟨_, rfl⟩
      rw [← hs'] at hs HS ⊢
      clear hs'
      go_wp2
      go_round
      case rel => exact ⟨j + 1, by omega, by go_num, by rw [unhide HS]⟩
      case measure => simp [intOf]; omega
    · go_wp2
      go_ret
      refine ⟨ret_int ?_, rfl⟩
      rw [List.take_of_length_le (by omega)]

set_option maxHeartbeats 400000 in
theorem specMsgSum_none (ao : Option Addr) (cap : Nat) (w : World) :
    Calls Tryd.prog 66 #[.slice ao 0 cap] w fun e w' => e = .returned (.int .i64 (sumL [])) ∧ w' = w := by
  go_enter Tryd.func66, Tryd.ntmps66
  go_wp2
  refine wp_loop_rounds 1 ?_
  rw [rounds_succ]
  go_wp2
  go_ret
  exact ⟨rfl, rfl⟩

theorem specMsgSum_any (ao : Option Addr) (cap : Nat) (z : List Int) (w : World) (hm : z.length ≤ maxLen) (hA : RowY w ao z) (hy : ByL z) :
    Calls Tryd.prog 66 #[.slice ao z.length cap] w fun e w' => e = .returned (.int .i64 (sumL z)) ∧ w' = w := by
  rcases hA with rfl | ⟨b, off, rfl, hA⟩
  · exact specMsgSum_none ao cap w
  · exact specMsgSum_some b off cap z w hm hA hy

set_option maxHeartbeats 1000000 in
theorem implMsgSum_some (b off cap : Nat) (z : List Int) (w : World) (hm : z.length ≤ maxLen) (hA : AtY w b off z) (hy : ByL z) :
    Calls Tryd.prog 71 #[.slice (some ⟨b, off, none⟩) z.length cap] w fun e w' => e = .returned (.int .i64 (sumL z)) ∧ w' = w := by
  unfold maxLen at hm
  go_enter Tryd.func71, Tryd.ntmps71
  go_wp2
  go_loop [3, 8] (fun m i => ∃ (j : Nat), j ≤ z.length ∧ i = .int .i64 j ∧ m = .int .i64 (sumL (z.take j))) (fun _ i => z.length - (intOf i).toNat)
  case atStart => exact ⟨0, Nat.zero_le _, rfl, rfl⟩
  case round =>
    obtain ⟨j, hj, rfl, rfl⟩ := hrel
    by_cases hlt : j < z.length
    · have d0 := hA j hlt
      have hy0 := hy.get j hlt
      have hs := sumL_in (z.take j)
      have HS := hide (sumL_step hlt)
      obtain ⟨x, hx⟩ : ∃ x, x = z[j] := ⟨_, rfl⟩
      rw [← hx] at d0 hy0 HS
      clear hx
      obtain ⟨s, hs'⟩ : ∃ s, s = sumL (z.take j) := ⟨_, rfl⟩
      rw [← hs'] at hs HS ⊢
      clear hs'
      go_wp2
      go_round
      case rel => exact ⟨j + 1, by omega, by go_num, by rw [unhide HS]⟩
      case measure => simp [intOf]; omega
    · go_wp2
      go_ret
      refine ⟨ret_int ?_, rfl⟩
      rw [List.take_of_length_le (by omega)]

set_option maxHeartbeats 400000 in
theorem implMsgSum_none (ao : Option Addr) (cap : Nat) (w : World) :
    Calls Tryd.prog 71 #[.slice ao 0 cap] w fun e w' => e = .returned (.int .i64 (sumL [])) ∧ w' = w := by
  go_enter Tryd.func71, Tryd.ntmps71
  go_wp2
  refine wp_loop_rounds 1 ?_
  rw [rounds_succ]
  go_wp2
  go_ret
  exact ⟨rfl, rfl⟩

theorem implMsgSum_any (ao : Option Addr) (cap : Nat) (z : List Int) (w : World) (hm : z.length ≤ maxLen) (hA : RowY w ao z) (hy : ByL z) :
    Calls Tryd.prog 71 #[.slice ao z.length cap] w fun e w' => e = .returned (.int .i64 (sumL z)) ∧ w' = w := by
  rcases hA with rfl | ⟨b, off, rfl, hA⟩
  · exact implMsgSum_none ao cap w
  · exact implMsgSum_some b off cap z w hm hA hy
end Go.Proofs.YtjinbinnjpjniaaDoor

/- The walk of FnExactMsgSum. -/
namespace Go.Proofs.YtjinbinnjpjniaaDoor
open Go.RowKit
set_option linter.unusedVariables false
set_option linter.unusedSimpArgs false

theorem rowY_of_own {w : World} {base g : Nat} {n cap : Nat} {z : List Int} (h : w.ownsRow base 5 1 (.slice (some ⟨g, 0, none⟩) n cap) n (bys z)) (hn : n = z.length) : RowY w (some ⟨g, 0, none⟩) z := .inr ⟨g, 0, rfl, ownsY_at h hn⟩

end Go.Proofs.YtjinbinnjpjniaaDoor
