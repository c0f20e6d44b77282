import Derived.Test.YtonpahhcfgdeoaaDoorQW13SB1Plain2YB3Z0
import Derived.Test.YtonpahhcfgdeoaaDoorQZ15Z7
import Derived.Test.YtonpahhcfgdeoaaDoorQZ8Z13Z14
/- Terms and bytes: there and back. -/
namespace Go.Proofs.YtonpahhcfgdeoaaDoor
set_option linter.unusedVariables false
set_option linter.unusedSimpArgs false

theorem strOf_data_from : ∀ (z : List Int) (r : ByteArray), (z.foldl (fun r n => r.push (UInt8.ofNat n.toNat)) r).data.toList = r.data.toList ++ z.map (fun n => UInt8.ofNat n.toNat)
  | [], r => by simp
  | x :: z, r => by
      rw [List.foldl_cons, strOf_data_from z]
      simp [ByteArray.push]
theorem strOf_data (z : List Int) : (strOf z).data.toList = z.map (fun n => UInt8.ofNat n.toNat) := by
  unfold strOf
  rw [strOf_data_from]
  simp
theorem u8_back (b : UInt8) : UInt8.ofNat ((b.toNat : Int)).toNat = b := by simp
theorem u8_there {x : Int} (h : 0 ≤ x ∧ x ≤ 255) : ((UInt8.ofNat x.toNat).toNat : Int) = x := by
  simp
  omega
theorem bytesL_data (s : ByteArray) : bytesL s = s.data.toList.map fun b => (b.toNat : Int) := by
  rfl
theorem strOf_bytesL (s : ByteArray) : strOf (bytesL s) = s := by
  apply ByteArray.ext
  apply Array.toList_inj.1
  rw [strOf_data, bytesL_data, List.map_map]
  conv => rhs; rw [← List.map_id s.data.toList]
  apply List.map_congr_left
  intro b _
  exact u8_back b
theorem bytesL_strOf {z : List Int} (h : ByL z) : bytesL (strOf z) = z := by
  rw [bytesL_data, strOf_data, List.map_map]
  conv => rhs; rw [← List.map_id z]
  apply List.map_congr_left
  intro b hb
  exact u8_there (h b hb)
theorem bytesL_size (s : ByteArray) : (bytesL s).length = s.size := bytesL_length s
theorem valN_num3 {n : Int} (h0 : -100000 ≤ n) (h1 : n ≤ 10000000) : valN ((n + 100000) / 65536 % 256) ((n + 100000) / 256 % 256) ((n + 100000) % 256) = n := by
  unfold valN
  omega
theorem num3_valN {a b c : Int} (ha : 0 ≤ a ∧ a ≤ 255) (hb : 0 ≤ b ∧ b ≤ 255) (hc : 0 ≤ c ∧ c ≤ 255) : num3 (valN a b c) = [a, b, c] := by
  rw [num3_eq]
  unfold valN
  rw [show (a * 65536 + b * 256 + c - 100000 + 100000) / 65536 % 256 = a by omega, show (a * 65536 + b * 256 + c - 100000 + 100000) / 256 % 256 = b by omega, show (a * 65536 + b * 256 + c - 100000 + 100000) % 256 = c by omega]

theorem rdC_encC {c : C} (h : okC c = true) (r : List Int) : rdC (encC c ++ r) = some (c, r) := by
  have hp := okC_parts h
  have hn := valN_num3 (n := c.n) (by omega) (by omega)
  by_cases h3 : c.k = 3
  · have e : encC c ++ r = 3 :: (c.n + 100000) / 65536 % 256 :: (c.n + 100000) / 256 % 256 :: (c.n + 100000) % 256 :: (c.s.size : Int) :: (bytesL c.s ++ r) := by
      simp [encC, h3, num3_eq]
    rw [e]
    simp only [rdC, if_true, hn]
    have hs : ((c.s.size : Int)).toNat = c.s.size := by omega
    rw [hs, if_pos (by rw [List.length_append, bytesL_size]; omega)]
    rw [List.take_left' (bytesL_size c.s), List.drop_left' (bytesL_size c.s), strOf_bytesL]
    obtain ⟨k, n, s⟩ := c
    simp only at h3
    subst h3
    rfl
  · have e : encC c ++ r = c.k :: (c.n + 100000) / 65536 % 256 :: (c.n + 100000) / 256 % 256 :: (c.n + 100000) % 256 :: r := by
      simp [encC, h3, num3_eq]
    rw [e]
    simp only [rdC, if_neg h3, hn]
    have hs : c.s = ByteArray.empty := by
      have h0 : c.s.size = 0 := by
        rcases hp.1 with h1 | h2 | h'
        · have := (okC1 h1).1 h; omega
        · have := (okC2 h2).1 h; omega
        · exact absurd h' h3
      apply ByteArray.ext
      apply Array.eq_empty_of_size_eq_zero
      exact h0
    obtain ⟨k, n, s⟩ := c
    simp only at hs
    subst hs
    rfl
theorem rdN_encL : ∀ (t : List C) (r : List Int), (∀ c ∈ t, okC c = true) → rdN t.length (encL t ++ r) = some (t, r)
  | [], r, _ => by simp [rdN, encL]
  | c :: t, r, h => by
      have e : encL (c :: t) ++ r = encC c ++ (encL t ++ r) := by simp [encL]
      rw [e, List.length_cons, rdN, rdC_encC (h c (by simp))]
      simp only
      rw [rdN_encL t r (fun x hx => h x (by simp [hx]))]
      rfl
theorem rdAll_encT {t : List C} (h : trm t = true) : rdAll (encT t) = some t := by
  have hp := (trm_iff t).1 h
  have e : encT t = (t.length : Int) :: encL t := by simp [encT, h]
  have hr := rdN_encL t [] hp.2.2.1
  rw [List.append_nil] at hr
  rw [e]
  simp [rdAll, rdT, hr, h]
theorem rdC_back {y : List Int} {c : C} {r : List Int} (hy : ByL y) (h : rdC y = some (c, r)) : encC c ++ r = y ∧ ByL r := by
  unfold rdC at h
  split at h
  · rename_i k a b c' r'
    have ha := hy a (by simp)
    have hb := hy b (by simp)
    have hc := hy c' (by simp)
    have hn := num3_valN ha hb hc
    split at h
    · rename_i h3
      subst h3
      split at h
      · rename_i l s
        have hl := hy l (by simp)
        have hs : ByL s := fun x hx => hy x (by simp [hx])
        split at h
        · rename_i hle
          simp only [Option.some.injEq, Prod.mk.injEq] at h
          obtain ⟨rfl, rfl⟩ := h
          refine ⟨?_, hs.drop _⟩
          have hsz : (strOf (s.take l.toNat)).size = l.toNat := by rw [strOf_size]; simp; omega
          have hll : ((l.toNat : Nat) : Int) = l := by omega
          simp only [encC, if_true, hn, hsz, hll, bytesL_strOf (hs.take _)]
          simp
        · cases h
      · cases h
    · rename_i h3
      simp only [Option.some.injEq, Prod.mk.injEq] at h
      obtain ⟨rfl, rfl⟩ := h
      refine ⟨?_, fun x hx => hy x (by simp [hx])⟩
      simp [encC, hn, h3]
  · cases h
theorem rdN_back : ∀ (n : Nat) (y : List Int) (t : List C) (r : List Int), ByL y → rdN n y = some (t, r) → encL t ++ r = y
  | 0, y, t, r, _, h => by
      simp [rdN] at h
      obtain ⟨rfl, rfl⟩ := h
      simp [encL]
  | n + 1, y, t, r, hy, h => by
      rw [rdN] at h
      split at h
      · rename_i c r' hc
        have hb := rdC_back hy hc
        cases hn : rdN n r' with
        | none => rw [hn] at h; cases h
        | some x =>
          rw [hn] at h
          simp only [Option.map_some, Option.some.injEq, Prod.mk.injEq] at h
          obtain ⟨rfl, rfl⟩ := h
          have := rdN_back n r' x.1 x.2 hb.2 hn
          rw [← hb.1, ← this]
          simp [encL]
      · cases h
theorem encT_rdAll {y : List Int} {t : List C} (hy : ByL y) (h : rdAll y = some t) : encT t = y ∧ trm t = true := by
  unfold rdAll at h
  split at h
  · rename_i t' e
    simp only [Option.some.injEq] at h
    subst h
    unfold rdT at e
    split at e
    · cases e
    · rename_i k r
      split at e
      · rename_i t2 r2 hn
        split at e
        · rename_i ht
          simp only [Option.some.injEq, Prod.mk.injEq] at e
          obtain ⟨rfl, rfl⟩ := e
          have hk := hy k (by simp)
          have hb := rdN_back _ _ _ _ (fun x hx => hy x (by simp [hx])) hn
          have hl := rdN_len _ _ _ _ hn
          rw [List.append_nil] at hb
          refine ⟨?_, ht⟩
          simp only [encT, ht, if_true, hb, hl]
          simp; omega
        · cases e
      · cases e
  · cases h
end Go.Proofs.YtonpahhcfgdeoaaDoor

/- Frames: the reader's way and the specification's come to one. -/
namespace Go.Proofs.YtonpahhcfgdeoaaDoor
set_option linter.unusedVariables false
set_option linter.unusedSimpArgs false

theorem rdT_parts {y : List Int} {t : List C} {r : List Int} (h : rdT y = some (t, r)) : ∃ k y', y = k :: y' ∧ rdN k.toNat y' = some (t, r) ∧ trm t = true := by
  unfold rdT at h
  split at h
  · cases h
  · rename_i k y'
    split at h
    · rename_i t2 r2 hn
      split at h
      · rename_i ht
        simp only [Option.some.injEq, Prod.mk.injEq] at h
        obtain ⟨rfl, rfl⟩ := h
        exact ⟨k, y', rfl, hn, ht⟩
      · cases h
    · cases h
theorem rdT_mk {k : Int} {y' : List Int} {t : List C} {r : List Int} (h : rdN k.toNat y' = some (t, r)) (ht : trm t = true) : rdT (k :: y') = some (t, r) := by
  simp [rdT, h, ht]
theorem rdT_more {y : List Int} {t : List C} {r : List Int} (s : List Int) (h : rdT y = some (t, r)) : rdT (y ++ s) = some (t, r ++ s) := by
  obtain ⟨k, y', rfl, hn, ht⟩ := rdT_parts h
  exact rdT_mk (rdN_more s _ _ _ _ hn) ht
theorem rdT_short {y : List Int} {t : List C} {r : List Int} (h : rdT y = some (t, r)) : r.length < y.length := by
  obtain ⟨k, y', rfl, hn, ht⟩ := rdT_parts h
  have := rdN_short hn
  simp
  omega
theorem rdT_less {y s : List Int} {t : List C} {r : List Int} (h : rdT (y ++ s) = some (t, r)) (hl : s.length ≤ r.length) : ∃ r', r = r' ++ s ∧ rdT y = some (t, r') := by
  cases y with
  | nil =>
    have := rdT_short h
    simp at this
    omega
  | cons k y =>
    obtain ⟨k', y', e, hn, ht⟩ := rdT_parts h
    simp only [List.cons_append, List.cons.injEq] at e
    obtain ⟨rfl, rfl⟩ := e
    obtain ⟨r', e, hr⟩ := rdN_less s _ _ _ _ hn hl
    exact ⟨r', e, rdT_mk hr ht⟩
/-- How long what was read is. -/
theorem rdT_size {y : List Int} {t : List C} {r : List Int} (hy : ByL y) (h : rdT y = some (t, r)) : y.length ≤ r.length + 521 ∧ ∃ a, y = a ++ r := by
  obtain ⟨k, y', rfl, hn, ht⟩ := rdT_parts h
  have hb := rdN_back _ _ _ _ (fun x hx => hy x (by simp [hx])) hn
  have hl := encT_length t
  have e : encT t = (t.length : Int) :: encL t := by simp [encT, ht]
  rw [e] at hl
  refine ⟨?_, k :: encL t, by rw [← hb]; rfl⟩
  have := congrArg List.length hb
  simp at this hl ⊢
  omega

theorem rdM_more {y : List Int} {m : Int × Int × Int × Int × List C × List C} {r : List Int} (s : List Int) (h : rdM y = some (m, r)) : rdM (y ++ s) = some (m, r ++ s) := by
  unfold rdM at h
  split at h
  · rename_i k f st a b c r0
    split at h
    · rename_i t r1 hT
      have hT' := rdT_more s hT
      split at h
      · rename_i h2
        split at h
        · rename_i u r2 hU
          have hU' := rdT_more s hU
          simp only [Option.some.injEq, Prod.mk.injEq] at h
          obtain ⟨rfl, rfl⟩ := h
          simp [rdM, hT', hU', h2]
        · cases h
      · rename_i h2
        simp only [Option.some.injEq, Prod.mk.injEq] at h
        obtain ⟨rfl, rfl⟩ := h
        simp [rdM, hT', h2]
    · cases h
  · cases h
theorem rdM_size {y : List Int} {m : Int × Int × Int × Int × List C × List C} {r : List Int} (hy : ByL y) (h : rdM y = some (m, r)) : y.length ≤ r.length + 1048 ∧ 6 + r.length ≤ y.length := by
  unfold rdM at h
  split at h
  · rename_i k f st a b c r0
    have hy0 : ByL r0 := fun x hx => hy x (by simp [hx])
    split at h
    · rename_i t r1 hT
      have hs := rdT_short hT
      obtain ⟨hz, a1, e1⟩ := rdT_size hy0 hT
      have hy1 : ByL r1 := fun x hx => hy0 x (by rw [e1]; simp [hx])
      split at h
      · split at h
        · rename_i u r2 hU
          have hs2 := rdT_short hU
          have hz2 := (rdT_size hy1 hU).1
          simp only [Option.some.injEq, Prod.mk.injEq] at h
          rw [← h.2]
          simp
          omega
        · cases h
      · simp only [Option.some.injEq, Prod.mk.injEq] at h
        rw [← h.2]
        simp
        omega
    · cases h
  · cases h
theorem rdM_less {y s : List Int} {m : Int × Int × Int × Int × List C × List C} {r : List Int} (h : rdM (y ++ s) = some (m, r)) (hl : s.length ≤ r.length) (h6 : 6 ≤ y.length) : ∃ r', r = r' ++ s ∧ rdM y = some (m, r') := by
  obtain ⟨k, f, st, a, b, c, r0, rfl⟩ := long6 h6
  simp only [List.cons_append, rdM] at h
  split at h
  · rename_i t r1 hT
    split at h
    · rename_i h2
      split at h
      · rename_i u r2 hU
        simp only [Option.some.injEq, Prod.mk.injEq] at h
        obtain ⟨rfl, rfl⟩ := h
        have hs2 := rdT_short hU
        obtain ⟨q, rfl, hq⟩ := rdT_less hT (by omega)
        obtain ⟨r', e, hr⟩ := rdT_less hU hl
        exact ⟨r', e, by simp [rdM, hq, hr, h2]⟩
      · cases h
    · rename_i h2
      simp only [Option.some.injEq, Prod.mk.injEq] at h
      obtain ⟨rfl, rfl⟩ := h
      obtain ⟨q, e, hq⟩ := rdT_less hT hl
      exact ⟨q, e, by simp [rdM, hq, h2]⟩
  · cases h
end Go.Proofs.YtonpahhcfgdeoaaDoor

/- A frame that is read: the reader's way and the specification's come to one. -/
namespace Go.Proofs.YtonpahhcfgdeoaaDoor
set_option linter.unusedVariables false
set_option linter.unusedSimpArgs false

theorem cut_two {y : List Int} (h : 4 ≤ y.length) : y.drop 2 = (y.drop 2).take (y.length - 4) ++ y.drop (y.length - 2) := by
  conv => lhs; rw [← List.take_append_drop (y.length - 4) (y.drop 2)]
  rw [List.drop_drop, show 2 + (y.length - 4) = y.length - 2 by omega]
theorem frame_yes {y z : List Int} {m : Int × Int × Int × Int × List C × List C} (hb : bdy y = some z) (hm : rdM z = some (m, [])) :
    opE y = false ∧ (tkZ false y 0 2).length = 2 ∧ rdM (y.drop 2) = some (m, y.drop (y.length - 2)) ∧ clE false y (y.length - 2) = false := by
  unfold bdy at hb
  split at hb
  · rename_i h
    obtain ⟨h1, h2, h3, h4⟩ := h
    simp only [Option.some.injEq] at hb
    obtain ⟨t1, t2⟩ := tk_yes (y := y) (p := 0) (n := 2) (by omega)
    have hl : (tkZ false y 0 2).length = 2 := by rw [t2]; simp; omega
    have hz : tkZ false y 0 2 = y.take 2 := by rw [t2]; rfl
    obtain ⟨t3, t4⟩ := tk_yes (y := y) (p := y.length - 2) (n := 2) (by omega)
    have hz2 : tkZ false y (y.length - 2) 2 = y.drop (y.length - 2) := by rw [t4]; exact List.take_of_length_le (by simp; omega)
    have hl2 : (tkZ false y (y.length - 2) 2).length = 2 := by rw [hz2]; simp; omega
    refine ⟨?_, hl, ?_, ?_⟩
    · unfold opE
      rw [t1, hl, hz, h3]
      simp
      omega
    · have := rdM_more (y.drop (y.length - 2)) hm
      rw [← hb, ← cut_two h1, List.nil_append] at this
      exact this
    · unfold clE
      rw [t3, hl2, hz2, h4]
      simp
      omega
  · cases hb
theorem frame_back {y : List Int} {p' : Nat} {m : Int × Int × Int × Int × List C × List C} (hy : ByL y) (ho : opE y = false) (hp : p' ≤ y.length) (hm : rdM (y.drop (tkZ false y 0 2).length) = some (m, y.drop p')) (hc : clE false y p' = false) :
    ∃ z, bdy y = some z ∧ rdM z = some (m, []) := by
  unfold opE at ho
  unfold clE at hc
  simp only [Bool.or_eq_false_iff] at ho hc
  obtain ⟨o1, o2⟩ := ho
  obtain ⟨⟨c1, c2⟩, c3⟩ := hc
  have hn : 0 + 2 ≤ y.length := by simp [tkE] at o1; omega
  obtain ⟨t1, t2⟩ := tk_yes hn
  have hl : (tkZ false y 0 2).length = 2 := by rw [t2]; simp; omega
  have hz : tkZ false y 0 2 = y.take 2 := by rw [t2]; rfl
  have hn2 : p' + 2 ≤ y.length := by simp [tkE] at c1; omega
  obtain ⟨t3, t4⟩ := tk_yes hn2
  have hl2 : (tkZ false y p' 2).length = 2 := by rw [t4]; simp; omega
  rw [hl2] at c3
  have hpl : p' = y.length - 2 := by simp at c3; omega
  rw [hl] at hm o2
  rw [hz] at o2
  have hz2 : tkZ false y p' 2 = y.drop (y.length - 2) := by rw [t4, hpl]; exact List.take_of_length_le (by simp; omega)
  rw [hz2] at c2
  subst hpl
  have hs := rdM_size (hy.drop 2) hm
  simp at hs
  have h8 : 8 ≤ y.length := by omega
  have h5 : y.length ≤ 1104 := by omega
  have o3 : hiL (y.take 2) = (y.length : Int) - 4 := by
    have := bne_eq_false_iff_eq.1 o2
    omega
  have c4 : hiL (y.drop (y.length - 2)) = sumL (y.take (y.length - 2)) := bne_eq_false_iff_eq.1 c2
  refine ⟨(y.drop 2).take (y.length - 4), ?_, ?_⟩
  · unfold bdy
    rw [if_pos ⟨by omega, h5, o3, c4⟩]
  · have hm' := hm
    rw [cut_two (by omega)] at hm'
    obtain ⟨r', e, hr⟩ := rdM_less hm' (Nat.le_refl _) (by simp; omega)
    have hlen : r'.length = 0 := by
      have := congrArg List.length e
      rw [List.length_append] at this
      omega
    rw [List.length_eq_zero_iff.1 hlen] at hr
    exact hr
end Go.Proofs.YtonpahhcfgdeoaaDoor
