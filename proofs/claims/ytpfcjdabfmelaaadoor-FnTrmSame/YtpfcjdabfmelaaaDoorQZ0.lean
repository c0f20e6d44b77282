/- Terms read out of bytes, by lists. -/
import Derived.Test.YtpfcjdabfmelaaaDoorQYB3TX1
namespace Go.Proofs.YtpfcjdabfmelaaaDoor
set_option linter.unusedVariables false
set_option linter.unusedSimpArgs false

/-- The text that bytes are. -/
def strOf (z : List Int) : ByteArray := z.foldl (fun r n => r.push (UInt8.ofNat n.toNat)) ByteArray.empty
theorem strOf_size_from : ∀ (z : List Int) (r : ByteArray), (z.foldl (fun r n => r.push (UInt8.ofNat n.toNat)) r).size = r.size + z.length
  | [], r => by simp
  | x :: z, r => by
      rw [List.foldl_cons, strOf_size_from z, ByteArray.size_push, List.length_cons]
      omega
theorem strOf_size (z : List Int) : (strOf z).size = z.length := by
  unfold strOf
  rw [strOf_size_from]
  simp
/-- A number of three bytes, read. -/
def valN (a b c : Int) : Int := a * 65536 + b * 256 + c - 100000
/-- A place, read: it, and what is left. -/
def rdC : List Int → Option (C × List Int)
  | k :: a :: b :: c :: r =>
    if k = 3 then
      match r with
      | l :: s => if l.toNat ≤ s.length then some (⟨3, valN a b c, strOf (s.take l.toNat)⟩, s.drop l.toNat) else none
      | [] => none
    else some (⟨k, valN a b c, ByteArray.empty⟩, r)
  | _ => none
/-- So many places, read. -/
def rdN : Nat → List Int → Option (List C × List Int)
  | 0, y => some ([], y)
  | n + 1, y => match rdC y with
    | some (c, r) => (rdN n r).map fun x => (c :: x.1, x.2)
    | none => none
/-- A term, read: it, and what is left. -/
def rdT : List Int → Option (List C × List Int)
  | [] => none
  | k :: r => match rdN k.toNat r with
    | some (t, r') => if trm t then some (t, r') else none
    | none => none
/-- A term that all the bytes are. -/
def rdAll (y : List Int) : Option (List C) := match rdT y with
  | some (t, []) => some t
  | _ => none

theorem rdC_suffix {y : List Int} {c : C} {r : List Int} (h : rdC y = some (c, r)) : ∃ m, m ≤ y.length ∧ r = y.drop m := by
  unfold rdC at h
  split at h
  · rename_i k a b c' r'
    split at h
    · split at h
      · rename_i l s
        split at h
        · simp only [Option.some.injEq, Prod.mk.injEq] at h
          refine ⟨5 + l.toNat, by simp; omega, ?_⟩
          rw [← h.2, show 5 + l.toNat = l.toNat + 5 by omega]
          simp
        · cases h
      · cases h
    · simp only [Option.some.injEq, Prod.mk.injEq] at h
      exact ⟨4, by simp, by rw [← h.2]; rfl⟩
  · cases h
/-- One place more, at the end. -/
theorem rdN_snoc : ∀ (n : Nat) (y : List Int), rdN (n + 1) y = match rdN n y with
    | some (t, r) => (match rdC r with | some (c, r') => some (t ++ [c], r') | none => none)
    | none => none
  | 0, y => by
      simp only [rdN]
      cases rdC y with
      | none => rfl
      | some x => obtain ⟨c, r⟩ := x; rfl
  | n + 1, y => by
      rw [rdN]
      cases h : rdC y with
      | none => simp [rdN, h]
      | some x =>
        obtain ⟨c, r⟩ := x
        simp only
        rw [rdN_snoc n r]
        conv => rhs; rw [rdN, h]
        cases hn : rdN n r with
        | none => simp [hn]
        | some q =>
          obtain ⟨t, r2⟩ := q
          simp only [Option.map_some, hn]
          cases hc : rdC r2 with
          | none => simp [hc]
          | some q2 => obtain ⟨c2, r3⟩ := q2; simp [hc]
theorem rdN_none {n m : Nat} {y : List Int} (h : rdN n y = none) (hm : n ≤ m) : rdN m y = none := by
  induction m with
  | zero => have : n = 0 := by omega
            subst this; exact h
  | succ m ih =>
    by_cases e : n = m + 1
    · subst e; exact h
    · rw [rdN_snoc, ih (by omega)]
theorem rdN_len : ∀ (n : Nat) (y : List Int) (t : List C) (r : List Int), rdN n y = some (t, r) → t.length = n
  | 0, y, t, r, h => by simp [rdN] at h; obtain ⟨rfl, _⟩ := h; rfl
  | n + 1, y, t, r, h => by
      rw [rdN] at h
      split at h
      · rename_i c r' hc
        cases hn : rdN n r' with
        | none => rw [hn] at h; cases h
        | some x =>
          rw [hn] at h
          simp only [Option.map_some, Option.some.injEq, Prod.mk.injEq] at h
          rw [← h.1, List.length_cons, rdN_len n r' x.1 x.2 (by rw [hn])]
      · cases h
end Go.Proofs.YtpfcjdabfmelaaaDoor
