/- Terms and bytes: there and back. -/
import Derived.Test.YtpfcjdabfmelaaaDoorQZ0
namespace Go.Proofs.YtpfcjdabfmelaaaDoor
set_option linter.unusedVariables false
set_option linter.unusedSimpArgs false

theorem strOf_data_from : ∀ (z : List Int) (r : ByteArray), (z.foldl (fun r n => r.push (UInt8.ofNat n.toNat)) r).data.toList = r.data.toList ++ z.map (fun n => UInt8.ofNat n.toNat)
  | [], r => by simp
  | x :: z, r => by
      rw [List.foldl_cons, strOf_data_from z]
      simp [ByteArray.push]
theorem strOf_data (z : List Int) : (strOf z).data.toList = z.map (fun n => UInt8.ofNat n.toNat) := by
  unfold strOf
  rw [strOf_data_from]
  simp
theorem u8_back (b : UInt8) : UInt8.ofNat ((b.toNat : Int)).toNat = b := by simp
theorem u8_there {x : Int} (h : 0 ≤ x ∧ x ≤ 255) : ((UInt8.ofNat x.toNat).toNat : Int) = x := by
  simp
  omega
theorem bytesL_data (s : ByteArray) : bytesL s = s.data.toList.map fun b => (b.toNat : Int) := by
  rfl
theorem strOf_bytesL (s : ByteArray) : strOf (bytesL s) = s := by
  apply ByteArray.ext
  apply Array.toList_inj.1
  rw [strOf_data, bytesL_data, List.map_map]
  conv => rhs; rw [← List.map_id s.data.toList]
  apply List.map_congr_left
  intro b _
  exact u8_back b
theorem bytesL_strOf {z : List Int} (h : ByL z) : bytesL (strOf z) = z := by
  rw [bytesL_data, strOf_data, List.map_map]
  conv => rhs; rw [← List.map_id z]
  apply List.map_congr_left
  intro b hb
  exact u8_there (h b hb)
theorem bytesL_size (s : ByteArray) : (bytesL s).length = s.size := bytesL_length s
theorem valN_num3 {n : Int} (h0 : -100000 ≤ n) (h1 : n ≤ 10000000) : valN ((n + 100000) / 65536 % 256) ((n + 100000) / 256 % 256) ((n + 100000) % 256) = n := by
  unfold valN
  omega
theorem num3_valN {a b c : Int} (ha : 0 ≤ a ∧ a ≤ 255) (hb : 0 ≤ b ∧ b ≤ 255) (hc : 0 ≤ c ∧ c ≤ 255) : num3 (valN a b c) = [a, b, c] := by
  rw [num3_eq]
  unfold valN
  rw [show (a * 65536 + b * 256 + c - 100000 + 100000) / 65536 % 256 = a by omega, show (a * 65536 + b * 256 + c - 100000 + 100000) / 256 % 256 = b by omega, show (a * 65536 + b * 256 + c - 100000 + 100000) % 256 = c by omega]

theorem rdC_encC {c : C} (h : okC c = true) (r : List Int) : rdC (encC c ++ r) = some (c, r) := by
  have hp := okC_parts h
  have hn := valN_num3 (n := c.n) (by omega) (by omega)
  by_cases h3 : c.k = 3
  · have e : encC c ++ r = 3 :: (c.n + 100000) / 65536 % 256 :: (c.n + 100000) / 256 % 256 :: (c.n + 100000) % 256 :: (c.s.size : Int) :: (bytesL c.s ++ r) := by
      simp [encC, h3, num3_eq]
    rw [e]
    simp only [rdC, if_true, hn]
    have hs : ((c.s.size : Int)).toNat = c.s.size := by omega
    rw [hs, if_pos (by rw [List.length_append, bytesL_size]; omega)]
    rw [List.take_left' (bytesL_size c.s), List.drop_left' (bytesL_size c.s), strOf_bytesL]
    obtain ⟨k, n, s⟩ := c
    simp only at h3
    subst h3
    rfl
  · have e : encC c ++ r = c.k :: (c.n + 100000) / 65536 % 256 :: (c.n + 100000) / 256 % 256 :: (c.n + 100000) % 256 :: r := by
      simp [encC, h3, num3_eq]
    rw [e]
    simp only [rdC, if_neg h3, hn]
    have hs : c.s = ByteArray.empty := by
      have h0 : c.s.size = 0 := by
        rcases hp.1 with h1 | h2 | h'
        · have := (okC1 h1).1 h; omega
        · have := (okC2 h2).1 h; omega
        · exact absurd h' h3
      apply ByteArray.ext
      apply Array.eq_empty_of_size_eq_zero
      exact h0
    obtain ⟨k, n, s⟩ := c
    simp only at hs
    subst hs
    rfl
theorem rdN_encL : ∀ (t : List C) (r : List Int), (∀ c ∈ t, okC c = true) → rdN t.length (encL t ++ r) = some (t, r)
  | [], r, _ => by simp [rdN, encL]
  | c :: t, r, h => by
      have e : encL (c :: t) ++ r = encC c ++ (encL t ++ r) := by simp [encL]
      rw [e, List.length_cons, rdN, rdC_encC (h c (by simp))]
      simp only
      rw [rdN_encL t r (fun x hx => h x (by simp [hx]))]
      rfl
theorem rdAll_encT {t : List C} (h : trm t = true) : rdAll (encT t) = some t := by
  have hp := (trm_iff t).1 h
  have e : encT t = (t.length : Int) :: encL t := by simp [encT, h]
  have hr := rdN_encL t [] hp.2.2.1
  rw [List.append_nil] at hr
  rw [e]
  simp [rdAll, rdT, hr, h]
theorem rdC_back {y : List Int} {c : C} {r : List Int} (hy : ByL y) (h : rdC y = some (c, r)) : encC c ++ r = y ∧ ByL r := by
  unfold rdC at h
  split at h
  · rename_i k a b c' r'
    have ha := hy a (by simp)
    have hb := hy b (by simp)
    have hc := hy c' (by simp)
    have hn := num3_valN ha hb hc
    split at h
    · rename_i h3
      subst h3
      split at h
      · rename_i l s
        have hl := hy l (by simp)
        have hs : ByL s := fun x hx => hy x (by simp [hx])
        split at h
        · rename_i hle
          simp only [Option.some.injEq, Prod.mk.injEq] at h
          obtain ⟨rfl, rfl⟩ := h
          refine ⟨?_, hs.drop _⟩
          have hsz : (strOf (s.take l.toNat)).size = l.toNat := by rw [strOf_size]; simp; omega
          have hll : ((l.toNat : Nat) : Int) = l := by omega
          simp only [encC, if_true, hn, hsz, hll, bytesL_strOf (hs.take _)]
          simp
        · cases h
      · cases h
    · rename_i h3
      simp only [Option.some.injEq, Prod.mk.injEq] at h
      obtain ⟨rfl, rfl⟩ := h
      refine ⟨?_, fun x hx => hy x (by simp [hx])⟩
      simp [encC, hn, h3]
  · cases h
theorem rdN_back : ∀ (n : Nat) (y : List Int) (t : List C) (r : List Int), ByL y → rdN n y = some (t, r) → encL t ++ r = y
  | 0, y, t, r, _, h => by
      simp [rdN] at h
      obtain ⟨rfl, rfl⟩ := h
      simp [encL]
  | n + 1, y, t, r, hy, h => by
      rw [rdN] at h
      split at h
      · rename_i c r' hc
        have hb := rdC_back hy hc
        cases hn : rdN n r' with
        | none => rw [hn] at h; cases h
        | some x =>
          rw [hn] at h
          simp only [Option.map_some, Option.some.injEq, Prod.mk.injEq] at h
          obtain ⟨rfl, rfl⟩ := h
          have := rdN_back n r' x.1 x.2 hb.2 hn
          rw [← hb.1, ← this]
          simp [encL]
      · cases h
theorem encT_rdAll {y : List Int} {t : List C} (hy : ByL y) (h : rdAll y = some t) : encT t = y ∧ trm t = true := by
  unfold rdAll at h
  split at h
  · rename_i t' e
    simp only [Option.some.injEq] at h
    subst h
    unfold rdT at e
    split at e
    · cases e
    · rename_i k r
      split at e
      · rename_i t2 r2 hn
        split at e
        · rename_i ht
          simp only [Option.some.injEq, Prod.mk.injEq] at e
          obtain ⟨rfl, rfl⟩ := e
          have hk := hy k (by simp)
          have hb := rdN_back _ _ _ _ (fun x hx => hy x (by simp [hx])) hn
          have hl := rdN_len _ _ _ _ hn
          rw [List.append_nil] at hb
          refine ⟨?_, ht⟩
          simp only [encT, ht, if_true, hb, hl]
          simp; omega
        · cases e
      · cases e
  · cases h
end Go.Proofs.YtpfcjdabfmelaaaDoor
