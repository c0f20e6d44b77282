/- The specification's reader of texts, without memory: words one behind the other, what is open; of a term's text it reads the term. -/
import Derived.Test.YthelpghiafbejaaDoorQRX1
namespace Go.Proofs.YthelpghiafbejaaDoor
set_option linter.unusedVariables false
set_option linter.unusedSimpArgs false

/-- The number that digits are; -1, if there are none, or too many. -/
def spVal (d : List UInt8) : Int := d.foldl (fun n c => n * 10 + ((c.toNat : Int) - 48)) 0
def spNum (d : List UInt8) : Int := if d.length = 0 ∨ 5 < d.length then -1 else spVal d
theorem spVal_snoc (d : List UInt8) (c : UInt8) : spVal (d ++ [c]) = spVal d * 10 + ((c.toNat : Int) - 48) := by simp [spVal]
theorem spVal_dec : ∀ (k n : Nat), n < 10 ^ (k + 1) → spVal (Go.Lib.decDigits n) = n
  | 0, n, h => by
      have h' : n < 10 := by simpa using h
      rw [decDigits_low h']
      simp only [spVal, List.foldl_cons, List.foldl_nil]
      rw [ofNat_dig h']; omega
  | k + 1, n, h => by
      by_cases hs : n < 10
      · rw [decDigits_low hs]
        simp only [spVal, List.foldl_cons, List.foldl_nil]
        rw [ofNat_dig hs]; omega
      · rw [decDigits_step hs, spVal_snoc, spVal_dec k (n / 10) (by rw [Nat.pow_succ] at h; omega), ofNat_dig (by omega)]
        omega
theorem spNum_dec {n : Nat} (h : n < 100000) : spNum (Go.Lib.decDigits n) = n := by
  have hl : (Go.Lib.decDigits n).length ≤ 5 := by
    have := decB_size 4 n (by simpa using h)
    unfold decB at this
    rw [← bl_size, bl_mk] at this
    exact this
  have hn : (Go.Lib.decDigits n).length ≠ 0 := fun e => dec_ne n (List.eq_nil_of_length_eq_zero e)
  unfold spNum
  rw [if_neg (by omega), spVal_dec 4 n (by simpa using h)]

/-- One place's word, whatever it is, and what is left. -/
def spWord : List UInt8 → C × List UInt8
  | [] => (⟨0, 0, ByteArray.empty⟩, [])
  | b :: r =>
    if b = 88 then (⟨1, spNum (r.takeWhile dig), ByteArray.empty⟩, r.dropWhile dig)
    else if b = 45 then (⟨2, -spNum (r.takeWhile dig), ByteArray.empty⟩, r.dropWhile dig)
    else if dig b then (⟨2, spNum ((b :: r).takeWhile dig), ByteArray.empty⟩, (b :: r).dropWhile dig)
    else (⟨3, 0, ⟨((b :: r).takeWhile sml).toArray⟩⟩, (b :: r).dropWhile sml)
theorem spWord_cons (b : UInt8) (r : List UInt8) : spWord (b :: r) =
    if b = 88 then (⟨1, spNum (r.takeWhile dig), ByteArray.empty⟩, r.dropWhile dig)
    else if b = 45 then (⟨2, -spNum (r.takeWhile dig), ByteArray.empty⟩, r.dropWhile dig)
    else if dig b then (⟨2, spNum ((b :: r).takeWhile dig), ByteArray.empty⟩, (b :: r).dropWhile dig)
    else (⟨3, 0, ⟨((b :: r).takeWhile sml).toArray⟩⟩, (b :: r).dropWhile sml) := rfl

theorem spWord_leaf {c : C} (h : okC c = true) (hk : c.k ≠ 3) {r : List UInt8} (hr : Stop r) : spWord (bl (wordB c) ++ r) = (c, r) := by
  obtain ⟨k, n, s⟩ := c
  have hd : ∀ b, r.head? = some b → dig b = false := fun b hb => (hr b hb).1
  unfold okC at h
  simp only at h hk
  by_cases k1 : k = 1
  · subst k1
    simp at h
    obtain ⟨⟨h1, h2⟩, h3⟩ := h
    have he := empty_of (s := s) (by simpa using h3)
    subst he
    unfold wordB
    rw [if_pos rfl, bl_app, bl_num, itoa_pos h1]
    obtain ⟨t1, t2⟩ := take_while_stop (p := dig) (digits_dig 4 n.toNat (by simp; omega)) hd
    show spWord (88 :: (Go.Lib.decDigits n.toNat ++ r)) = _
    rw [spWord_cons, if_pos rfl, t1, t2, spNum_dec (by omega), show ((n.toNat : Nat) : Int) = n by omega]
  · by_cases k2 : k = 2
    · subst k2
      simp at h
      obtain ⟨⟨h1, h2⟩, h3⟩ := h
      have he := empty_of (s := s) (by simpa using h3)
      subst he
      unfold wordB
      rw [if_neg (by simp), if_pos rfl, bl_num]
      dsimp only
      by_cases hn : n < 0
      · rw [itoa_neg hn]
        obtain ⟨t1, t2⟩ := take_while_stop (p := dig) (digits_dig 4 (-n).toNat (by simp; omega)) hd
        show spWord (45 :: (Go.Lib.decDigits (-n).toNat ++ r)) = _
        rw [spWord_cons, if_neg (by decide), if_pos rfl, t1, t2, spNum_dec (by omega), show -(((-n).toNat : Nat) : Int) = n by omega]
      · rw [itoa_pos (by omega)]
        have hdg := digits_dig 4 n.toNat (by simp; omega)
        obtain ⟨t1, t2⟩ := take_while_stop (p := dig) hdg hd
        have hv := spNum_dec (n := n.toNat) (by omega)
        have hne := dec_ne n.toNat
        generalize Go.Lib.decDigits n.toNat = l at t1 t2 hv hdg hne ⊢
        cases l with
        | nil => exact absurd rfl hne
        | cons b l =>
          have hb := hdg b (by simp)
          have hb' := (dig_iff b).1 hb
          rw [List.cons_append] at t1 t2 ⊢
          rw [spWord_cons, if_neg (by intro e; subst e; simp at hb'), if_neg (by intro e; subst e; simp at hb'), if_pos hb, t1, t2, hv, show ((n.toNat : Nat) : Int) = n by omega]
    · simp [k1, k2, hk] at h

theorem spWord_name {c : C} (h : okC c = true) (hk : c.k = 3) {r : List UInt8} (hr : Stop r) : spWord (bl (wordB c) ++ r) = (⟨3, 0, c.s⟩, r) := by
  have h1 := rdWord_name h hk hr
  have h2 : bl (wordB c) ≠ [] := by
    unfold okC at h
    rw [if_neg (by omega), if_neg (by omega), if_pos hk] at h
    simp at h
    have hs := h.2
    unfold nameB at hs
    simp only [Bool.and_eq_true, decide_eq_true_eq] at hs
    intro e
    have : wordB c = c.s := by unfold wordB; rw [if_neg (by omega), if_neg (by omega)]
    rw [this] at e
    have := bl_size c.s
    rw [e] at this
    simp at this
    omega
  cases hl : bl (wordB c) with
  | nil => exact absurd hl h2
  | cons b l =>
    rw [hl, List.cons_append] at h1
    rw [rdWord_cons] at h1
    rw [List.cons_append, spWord_cons]
    by_cases e1 : b = 88
    · rw [if_pos e1] at h1
      split at h1
      · injection h1 with h1; injection h1 with h1 _; injection h1 with h1; exact absurd h1 (by decide)
      · cases h1
    · rw [if_neg e1] at h1 ⊢
      by_cases e2 : b = 45
      · rw [if_pos e2] at h1
        split at h1
        · split at h1
          · cases h1
          · injection h1 with h1; injection h1 with h1 _; injection h1 with h1; exact absurd h1 (by decide)
        · cases h1
      · rw [if_neg e2] at h1 ⊢
        by_cases e3 : dig b = true
        · rw [if_pos e3] at h1
          split at h1
          · injection h1 with h1; injection h1 with h1 _; injection h1 with h1; exact absurd h1 (by decide)
          · cases h1
        · rw [if_neg e3] at h1 ⊢
          exact Option.some.inj h1

/-- One argument more for the name that is open last. -/
def bump (t : List C) (o : List Nat) : List C := match o.getLast? with
  | none => t
  | some i => t.modify i fun c => ⟨c.k, c.n + 1, c.s⟩
theorem bump_len (t : List C) (o : List Nat) : (bump t o).length = t.length := by
  unfold bump
  split
  · rfl
  · simp
/-- Brackets that close. -/
def spClose : List UInt8 → List Nat → List UInt8 × List Nat
  | [], o => ([], o)
  | b :: r, o => if b = 41 ∧ o ≠ [] then spClose r o.dropLast else (b :: r, o)
def spComma (r : List UInt8) : List UInt8 := if r.head? = some 44 then r.tail else r

def spRun : Nat → List UInt8 → List C → List Nat → Option (List C)
  | 0, _, t, _ => some t
  | f + 1, l, t, o =>
    if l = [] then some t
    else if (spWord l).2.length = l.length then none
    else if (spWord l).1.k = 3 ∧ (spWord l).2.head? = some 40 then spRun f (spWord l).2.tail (bump t o ++ [(spWord l).1]) (o ++ [t.length])
    else spRun f (spComma (spClose (spWord l).2 o).1) (bump t o ++ [(spWord l).1]) (spClose (spWord l).2 o).2

theorem word_ne {c : C} (h : okC c = true) : bl (wordB c) ≠ [] := by
  intro e
  have hs : (wordB c).size = 0 := by rw [← bl_size, e]; rfl
  unfold wordB at hs
  obtain ⟨h0, h1, h2, _⟩ := okC_parts h
  have hd : ∀ n, (numB n).size ≠ 0 := fun n e => by
    rw [← bl_size, bl_num] at e
    have := List.eq_nil_of_length_eq_zero e
    by_cases hn : n < 0
    · rw [itoa_neg hn] at this; cases this
    · rw [itoa_pos (by omega)] at this; exact dec_ne _ this
  split at hs
  · rw [ByteArray.size_append] at hs
    exact hd c.n (by omega)
  · split at hs
    · exact hd _ hs
    · rename_i k1 k2
      have k3 : c.k = 3 := by omega
      unfold okC at h
      rw [if_neg k1, if_neg k2, if_pos k3] at h
      simp at h
      have hs' := h.2
      unfold nameB at hs'
      simp only [Bool.and_eq_true, decide_eq_true_eq] at hs'
      omega

theorem modify_mid : ∀ (T : List C) (c : C) (S : List C) (g : C → C), (T ++ c :: S).modify T.length g = T ++ g c :: S
  | [], c, S, g => by simp
  | d :: T, c, S, g => by simp [modify_mid T c S g]

theorem spRun_kids : ∀ (ks : List (List C)) (us : List ByteArray), ks ≠ [] → us.length = ks.length →
    (∀ i (h1 : i < ks.length) (h2 : i < us.length), ∀ f r T o, Stop2 r → ks[i].length ≤ f → spRun f (bl us[i] ++ r) T o = spRun (f - ks[i].length) (spComma (spClose r o).1) (bump T o ++ ks[i]) (spClose r o).2) →
    ∀ f r (T S : List C) (c : C) (o : List Nat), ks.flatten.length ≤ f →
      spRun f (bl (joinB us) ++ 41 :: r) (T ++ c :: S) (o ++ [T.length]) = spRun (f - ks.flatten.length) (spComma (spClose r o).1) (T ++ ⟨c.k, c.n + ks.length, c.s⟩ :: (S ++ ks.flatten)) (spClose r o).2
  | [k], [u], _, _, h, f, r, T, S, c, o, hf => by
      have h0 := h 0 (by simp) (by simp) f (41 :: r) (T ++ c :: S) (o ++ [T.length]) (stop_of _ _ (by decide)) (by simpa using hf)
      simp only [List.getElem_cons_zero] at h0
      simp only [joinB]
      rw [h0]
      have hc : spClose (41 :: r) (o ++ [T.length]) = spClose r o := by
        rw [spClose, if_pos ⟨rfl, by simp⟩, List.dropLast_concat]
      have hb : bump (T ++ c :: S) (o ++ [T.length]) = T ++ ⟨c.k, c.n + 1, c.s⟩ :: S := by
        unfold bump
        rw [List.getLast?_concat]
        simp only
        rw [modify_mid]
      rw [hc, hb]
      simp
  | k :: k' :: ks, u :: u' :: us, _, hl, h, f, r, T, S, c, o, hf => by
      simp only [List.flatten_cons, List.length_append] at hf
      have h0 := h 0 (by simp) (by simp) f (44 :: (bl (joinB (u' :: us)) ++ 41 :: r)) (T ++ c :: S) (o ++ [T.length]) (stop_of _ _ (by decide)) (by simp only [List.getElem_cons_zero]; omega)
      simp only [List.getElem_cons_zero] at h0
      have ih := spRun_kids (k' :: ks) (u' :: us) (by simp) (by simpa using hl) (fun i h1 h2 => h (i + 1) (Nat.succ_lt_succ h1) (Nat.succ_lt_succ h2)) (f - k.length) r T (S ++ k) ⟨c.k, c.n + 1, c.s⟩ o (by simp only [List.flatten_cons, List.length_append]; omega)
      have e : bl (joinB (u :: u' :: us)) ++ 41 :: r = bl u ++ 44 :: (bl (joinB (u' :: us)) ++ 41 :: r) := by
        simp only [joinB, bl_app]
        show bl u ++ [44] ++ bl (joinB (u' :: us)) ++ 41 :: r = _
        simp
      have hc : spClose (44 :: (bl (joinB (u' :: us)) ++ 41 :: r)) (o ++ [T.length]) = (44 :: (bl (joinB (u' :: us)) ++ 41 :: r), o ++ [T.length]) := by
        rw [spClose, if_neg (fun h => absurd h.1 (by decide))]
      have hb : bump (T ++ c :: S) (o ++ [T.length]) = T ++ ⟨c.k, c.n + 1, c.s⟩ :: S := by
        unfold bump
        rw [List.getLast?_concat]
        simp only
        rw [modify_mid]
      have hcm : spComma (44 :: (bl (joinB (u' :: us)) ++ 41 :: r)) = bl (joinB (u' :: us)) ++ 41 :: r := by
        simp [spComma]
      rw [e, h0, hc, hb, hcm, List.append_assoc, List.cons_append, ih]
      have e1 : f - k.length - (k' :: ks).flatten.length = f - (k :: k' :: ks).flatten.length := by simp only [List.flatten_cons, List.length_append]; omega
      have e2 : c.n + 1 + ((k' :: ks).length : Int) = c.n + ((k :: k' :: ks).length : Int) := by simp only [List.length_cons]; omega
      have e3 : S ++ k ++ (k' :: ks).flatten = S ++ (k :: k' :: ks).flatten := by rw [show (k :: k' :: ks).flatten = k ++ (k' :: ks).flatten from rfl, List.append_assoc]
      dsimp only
      rw [e1, e2, e3]
  | [], _, h, _, _, _, _, _, _, _, _, _ => absurd rfl h
  | [_], [], _, h, _, _, _, _, _, _, _, _ => by simp at h
  | [_], _ :: _ :: _, _, h, _, _, _, _, _, _, _, _ => by simp at h
  | _ :: _ :: _, [], _, h, _, _, _, _, _, _, _, _ => by simp at h
  | _ :: _ :: _, [_], _, h, _, _, _, _, _, _, _, _ => by simp at h

theorem spRun_txt {t : List C} {u : ByteArray} (h : Txt wordB t u) : (∀ c ∈ t, okC c = true) → ∀ f r T o, Stop2 r → t.length ≤ f →
    spRun f (bl u ++ r) T o = spRun (f - t.length) (spComma (spClose r o).1) (bump T o ++ t) (spClose r o).2 := by
  induction h with
  | @leaf c h0 =>
    intro hok f r T o hr hf
    have hc := hok c (by simp)
    have hne := word_ne hc
    simp only [List.length_singleton] at hf ⊢
    obtain ⟨f, rfl⟩ : ∃ g, f = g + 1 := ⟨f - 1, by omega⟩
    have hlen : ¬ (r.length = (bl (wordB c) ++ r).length) := by
      rw [List.length_append]
      have := List.length_pos_iff.2 hne
      omega
    rw [spRun, if_neg (by simp [hne])]
    by_cases h3 : c.k = 3
    · rw [spWord_name hc h3 hr.stop]
      have hn : c.n = 0 := by unfold ari at h0; rw [if_pos h3] at h0; exact h0
      have hcc : (⟨3, 0, c.s⟩ : C) = c := by obtain ⟨k, n, s⟩ := c; simp only at h3 hn; subst h3; subst hn; rfl
      rw [hcc]
      dsimp only
      rw [if_neg hlen, if_neg (by rintro ⟨_, h40⟩; exact (hr _ h40).2.2 rfl)]
      rfl
    · rw [spWord_leaf hc h3 hr.stop]
      dsimp only
      rw [if_neg hlen, if_neg (by rintro ⟨h, _⟩; exact h3 h)]
      rfl
  | @node c ks us hne hl hu hk ih =>
    intro hok f r T o hr hf
    have hc := hok c (by simp)
    have hwn := word_ne hc
    have hp : 0 < ks.length := List.length_pos_iff.2 hne
    obtain ⟨h3, hn⟩ := ari_pos (c := c) (by omega)
    simp only [List.length_cons] at hf ⊢
    obtain ⟨f, rfl⟩ : ∃ g, f = g + 1 := ⟨f - 1, by omega⟩
    have e : bl (wordB c ++ lpB ++ joinB us ++ rpB) ++ r = bl (wordB c) ++ 40 :: (bl (joinB us) ++ 41 :: r) := by
      simp only [bl_app]
      show bl (wordB c) ++ [40] ++ bl (joinB us) ++ [41] ++ r = _
      simp
    have hka := spRun_kids ks us hne hu
      (fun i h1 h2 f' r' T' o' hr' hf' => ih i h1 h2 (fun x hx => hok x (List.mem_cons_of_mem _ (List.mem_flatten.2 ⟨_, List.getElem_mem h1, hx⟩))) f' r' T' o' hr' hf') f r (bump T o) [] ⟨3, 0, c.s⟩ o (by omega)
    rw [bump_len] at hka
    have hlen : ¬ ((40 :: (bl (joinB us) ++ 41 :: r)).length = (bl (wordB c) ++ 40 :: (bl (joinB us) ++ 41 :: r)).length) := by
      rw [List.length_append]
      have := List.length_pos_iff.2 hwn
      omega
    rw [spRun, e, if_neg (by simp), spWord_name hc h3 (r := 40 :: (bl (joinB us) ++ 41 :: r)) (fun b hb => by simp at hb; subst hb; exact ⟨by decide, by decide⟩)]
    dsimp only
    rw [if_neg hlen, if_pos ⟨rfl, rfl⟩, List.tail_cons, hka]
    have hcn : (⟨3, 0 + (ks.length : Int), c.s⟩ : C) = c := by
      obtain ⟨k, n, s⟩ := c
      simp only at h3 hn
      subst h3
      rw [hl, ← hn, Int.zero_add]
    dsimp only
    rw [hcn]
    simp only [List.nil_append]
    congr 1
    omega

/-- Of a term's text the term is read. -/
theorem spRun_text {t : List C} (ht : trm t = true) : spRun 40 (bl (textT t)) [] [] = some t := by
  have h := (trm_iff t).1 ht
  have := spRun_txt (textT_txt ht) h.2.2.1 40 [] [] [] (fun b hb => by cases hb) h.2.1
  rw [List.append_nil] at this
  rw [this]
  simp only [spClose, spComma, bump]
  cases 40 - t.length with
  | zero => simp [spRun]
  | succ n => simp [spRun]
end Go.Proofs.YthelpghiafbejaaDoor
