import Derived.Test.YtcimlcmhodpalaaQPB4
import Derived.Test.YtcimlcmhodpalaaQW12
import Derived.Test.YtcimlcmhodpalaaQOpen3W2
/- The plain mathematics of what can be come to from a term's variables, as the specification looks for it. -/
namespace Go.Proofs.Ytcimlcmhodpalaa
set_option linter.unusedVariables false
set_option linter.unusedSimpArgs false

theorem mem_addVV {acc : List Int} {c : C} {v : Int} : v ∈ addV acc c ↔ v ∈ acc ∨ (c.k = 1 ∧ c.n = v) := by
  unfold addV
  by_cases h : c.k = 1
  · rw [if_pos h]
    by_cases hm : c.n ∈ acc
    · rw [if_pos hm]
      exact ⟨.inl, fun h' => h'.elim id (fun h' => h'.2 ▸ hm)⟩
    · rw [if_neg hm]
      simp [h]
      constructor
      · rintro (h' | rfl)
        · exact .inl h'
        · exact .inr rfl
      · rintro (h' | rfl)
        · exact .inl h'
        · exact .inr rfl
  · rw [if_neg h]
    simp [h]
theorem mem_foldV : ∀ (t : List C) (acc : List Int) (v : Int), v ∈ t.foldl addV acc ↔ v ∈ acc ∨ varIn t v
  | [], acc, v => by simp [varIn_nil]
  | c :: t, acc, v => by
      rw [List.foldl_cons, mem_foldV t, mem_addVV, varIn_cons]
      exact or_assoc
theorem mem_freeV {t : List C} {v : Int} : v ∈ freeOf t ↔ varIn t v := by
  unfold freeOf
  rw [mem_foldV]
  simp

theorem nodup_len : ∀ {l V : List Int}, l.Nodup → (∀ x ∈ l, x ∈ V) → l.length ≤ V.length
  | [], V, _, _ => Nat.zero_le _
  | x :: l, V, hn, hs => by
      have hx := hs x (by simp)
      have hn' := List.nodup_cons.1 hn
      have ih := nodup_len (l := l) (V := V.erase x) hn'.2 (fun y hy => (List.mem_erase_of_ne (fun (e : y = x) => hn'.1 (e ▸ hy))).2 (hs y (by simp [hy])))
      have := List.length_erase_of_mem hx
      have := List.length_pos_of_mem hx
      simp only [List.length_cons]
      omega

/-- All numbers at places of a term and of bindings. -/
def allV (s : List B) (t : List C) : List Int := varsOf t ++ (s.map fun x => varsOf x.t).flatten
theorem allV_get {s : List B} {t : List C} {u v : Int} (h : varIn (getB s u) v) : v ∈ allV s t := by
  obtain ⟨x, hx, _, e⟩ := getB_mem (ne_of_varIn h)
  rw [← e] at h
  exact List.mem_append.2 (.inr (List.mem_flatten.2 ⟨_, List.mem_map.2 ⟨x, hx, rfl⟩, mem_varsOf h⟩))
theorem allV_len (s : List B) (t : List C) : (allV s t).length = t.length + (s.map fun x => x.t.length).sum := by
  unfold allV
  rw [List.length_append, List.length_flatten, List.map_map]
  simp [varsOf, Function.comp_def]

/-- How far the search has come: the first k have been looked at, and of the next one those in 'm'. -/
structure Lead (s : List B) (t : List C) (out : List Int) (k : Nat) : Prop where
  sound : ∀ v ∈ out, Reach s t v
  start : ∀ v, varIn t v → v ∈ out
  step : ∀ j, (h : j < out.length) → j < k → ∀ v, varIn (getB s out[j]) v → v ∈ out
  nodup : out.Nodup
  kle : k ≤ out.length

theorem Lead.begin (s : List B) (t : List C) : Lead s t (freeOf t) 0 :=
  ⟨fun v hv => .here (mem_freeV.1 hv), fun v hv => mem_freeV.2 hv, fun j _ h => absurd h (Nat.not_lt_zero _), freeOf_nodup t, Nat.zero_le _⟩

theorem reach_all {s : List B} {t : List C} {v : Int} (h : Reach s t v) : v ∈ allV s t := by
  cases h with
  | here h => exact List.mem_append.2 (.inl (mem_varsOf h))
  | step _ h => exact allV_get h

theorem Lead.len {s : List B} {t : List C} {out : List Int} {k : Nat} (h : Lead s t out k) : out.length ≤ (allV s t).length := nodup_len h.nodup (fun v hv => reach_all (h.sound v hv))

/-- One more is found. -/
theorem Lead.add {s : List B} {t : List C} {out : List Int} {k : Nat} (h : Lead s t out k) (hk : k < out.length) {v : Int} (hv : varIn (getB s out[k]) v) (hn : v ∉ out) : Lead s t (out ++ [v]) k := by
  refine ⟨fun u hu => ?_, fun u hu => List.mem_append.2 (.inl (h.start u hu)), fun j hj hjk u hu => ?_, ?_, by simp; omega⟩
  · rcases List.mem_append.1 hu with hu | hu
    · exact h.sound u hu
    · simp at hu; subst hu; exact .step (h.sound _ (List.getElem_mem hk)) hv
  · have hj' : j < out.length := by omega
    rw [List.getElem_append_left hj'] at hu
    exact List.mem_append.2 (.inl (h.step j hj' hjk u hu))
  · rw [List.nodup_append]
    exact ⟨h.nodup, by simp, fun a ha b hb => by simp at hb; subst hb; intro e; subst e; exact hn ha⟩

/-- All of one have been looked at. -/
theorem Lead.next {s : List B} {t : List C} {out : List Int} {k : Nat} (h : Lead s t out k) (hk : k < out.length) (ha : ∀ v, varIn (getB s out[k]) v → v ∈ out) : Lead s t out (k + 1) := by
  refine ⟨h.sound, h.start, fun j hj hjk u hu => ?_, h.nodup, hk⟩
  by_cases e : j = k
  · subst e; exact ha u hu
  · exact h.step j hj (by omega) u hu

theorem Lead.done {s : List B} {t : List C} {out : List Int} (h : Lead s t out out.length) (v : Int) : v ∈ out ↔ Reach s t v := by
  refine ⟨h.sound v, fun hr => ?_⟩
  induction hr with
  | here h1 => exact h.start _ h1
  | step _ h2 ih =>
    obtain ⟨j, hj, rfl⟩ := List.getElem_of_mem ih
    exact h.step j hj hj _ h2

/-- While the things that one leads to are looked at. -/
def MoreAt (s : List B) (t : List C) (k : Nat) (u : Int) (mo : List Int) (j : Nat) (out : List Int) : Prop :=
  Lead s t out k ∧ (∃ h : k < out.length, out[k] = u) ∧ (∀ i, (h : i < mo.length) → i < j → mo[i] ∈ out)

theorem MoreAt.start {s : List B} {t : List C} {k : Nat} {out : List Int} (h : Lead s t out k) (hk : k < out.length) : MoreAt s t k out[k] (freeOf (getB s out[k])) 0 out :=
  ⟨h, ⟨hk, rfl⟩, fun i _ h => absurd h (Nat.not_lt_zero _)⟩
theorem MoreAt.old {s : List B} {t : List C} {k j : Nat} {u : Int} {mo out : List Int} (h : MoreAt s t k u mo j out) (hj : j < mo.length) (hm : mo[j] ∈ out) : MoreAt s t k u mo (j + 1) out := by
  refine ⟨h.1, h.2.1, fun i hi hij => ?_⟩
  by_cases e : i = j
  · subst e; exact hm
  · exact h.2.2 i hi (by omega)
theorem MoreAt.new {s : List B} {t : List C} {k j : Nat} {u : Int} {out : List Int} (h : MoreAt s t k u (freeOf (getB s u)) j out) (hj : j < (freeOf (getB s u)).length) (hm : (freeOf (getB s u))[j] ∉ out) : MoreAt s t k u (freeOf (getB s u)) (j + 1) (out ++ [(freeOf (getB s u))[j]]) := by
  obtain ⟨h1, ⟨hk, e⟩, h3⟩ := h
  have hv : varIn (getB s out[k]) (freeOf (getB s u))[j] := by rw [e]; exact mem_freeV.1 (List.getElem_mem hj)
  refine ⟨h1.add hk hv hm, ⟨by simp; omega, by rw [List.getElem_append_left hk]; exact e⟩, fun i hi hij => ?_⟩
  by_cases e' : i = j
  · subst e'; simp
  · exact List.mem_append.2 (.inl (h3 i hi (by omega)))
theorem MoreAt.done {s : List B} {t : List C} {k : Nat} {u : Int} {out : List Int} (h : MoreAt s t k u (freeOf (getB s u)) (freeOf (getB s u)).length out) : Lead s t out (k + 1) := by
  obtain ⟨h1, ⟨hk, e⟩, h3⟩ := h
  refine h1.next hk (fun v hv => ?_)
  rw [e] at hv
  obtain ⟨i, hi, rfl⟩ := List.getElem_of_mem (mem_freeV.2 hv)
  exact h3 i hi hi
end Go.Proofs.Ytcimlcmhodpalaa

/- The walks of the model's look at places: l1In, l1Name, l1Cell, l1End, TrmOk. -/
namespace Go.Proofs.Ytcimlcmhodpalaa
open Go.RowKit
set_option linter.unusedVariables false
set_option linter.unusedSimpArgs false

set_option maxHeartbeats 400000 in
theorem l1In_any (n lo hi : Int) (w : World) :
    Calls Try.prog 72 #[.int .i64 n, .int .i64 lo, .int .i64 hi] w fun e w' => e = .returned (.bool (decide (lo ≤ n ∧ n ≤ hi))) ∧ w' = w := by
  by_cases h1 : lo ≤ n
  · go_enter Try.func72, Try.ntmps72
    go_wp2
    go_ret
    exact ⟨ret_bool (by simp [h1]), rfl⟩
  · go_enter Try.func72, Try.ntmps72
    go_wp2
    go_ret
    exact ⟨ret_bool (by simp; omega), rfl⟩

theorem letters_no {s : ByteArray} {k : Nat} (h : k < s.size) (hb : small s[k].toNat = false) : letters s = false := by
  unfold letters
  rw [List.all_eq_false]
  exact ⟨s[k], by rw [show s[k] = s.data.toList[k]'(by simpa using h) from rfl]; exact List.getElem_mem _, by simp [hb]⟩

theorem letters_yes {s : ByteArray} (h : ∀ j : Nat, (h : j < s.size) → small s[j].toNat = true) : letters s = true := by
  unfold letters
  rw [List.all_eq_true]
  intro c hc
  obtain ⟨j, hj, rfl⟩ := List.mem_iff_getElem.1 hc
  exact h j (by simpa using hj)

set_option maxHeartbeats 1000000 in
theorem l1Name_any (s : ByteArray) (w : World) (hs : s.size ≤ maxLen) :
    Calls Try.prog 96 #[.string s] w fun e w' => e = .returned (.bool (nameB s)) ∧ w' = w := by
  unfold maxLen at hs
  by_cases h1 : s.size = 0
  · have hz : ((s.size : Int) == 0) = true := by simp only [beq_iff_eq]; omega
    go_enter Try.func96, Try.ntmps96
    go_wp2
    go_ret
    exact ⟨ret_bool (by unfold nameB; rw [h1]; rfl), rfl⟩
  · have hz : ((s.size : Int) == 0) = false := by rw [beq_eq_false_iff_ne]; omega
    by_cases h2 : s.size ≤ 8
    · have hnb : nameB s = letters s := by unfold nameB; simp only [h2, decide_true, Bool.and_true, Bool.true_and, show 1 ≤ s.size by omega]
      have HN : Hid (nameB s = letters s) := hnb
      clear hnb
      go_enter Try.func96, Try.ntmps96
      go_wp2
      go_loop [3] (fun i => ∃ k : Nat, k ≤ s.size ∧ i = .int .i64 k ∧ ∀ j : Nat, (h : j < s.size) → j < k → small s[j].toNat = true) (fun i => s.size - (intOf i).toNat)
      case atStart => exact ⟨0, Nat.zero_le _, rfl, fun j _ h => absurd h (Nat.not_lt_zero _)⟩
      case round =>
        obtain ⟨k, hk, rfl, hall⟩ := hrel
        have H : Hid (∀ j : Nat, (h : j < s.size) → j < k → small s[j].toNat = true) := hall
        clear hall
        by_cases hlt : k < s.size
        · by_cases ha : 97 ≤ (s[k].toNat : Int)
          · by_cases hz : (s[k].toNat : Int) ≤ 122
            · go_wp2
              go_round
              case rel =>
                refine ⟨k + 1, by omega, by go_num, fun j hj hjk => ?_⟩
                by_cases e : j = k
                · subst e; exact small_yes ha hz
                · exact H.out j hj (by omega)
              case measure => simp [intOf]; omega
            · go_wp2
              go_ret
              exact ⟨ret_bool (by rw [HN.out, letters_no hlt (small_no (.inr (by omega)))]), rfl⟩
          · go_wp2
            go_ret
            exact ⟨ret_bool (by rw [HN.out, letters_no hlt (small_no (.inl (by omega)))]), rfl⟩
        · go_wp2
          go_ret
          exact ⟨ret_bool (by rw [HN.out, letters_yes (fun j hj => H.out j hj (by omega))]), rfl⟩
    · go_enter Try.func96, Try.ntmps96
      go_wp2
      go_ret
      exact ⟨ret_bool (by simp [nameB, h2]), rfl⟩

set_option maxHeartbeats 1000000 in
theorem l1Cell_any (c : C) (w : World) (hs : c.s.size ≤ maxLen) :
    Calls Try.prog 65 #[.agg #[.int .i64 c.k, .int .i64 c.n, .string c.s]] w fun e w' => e = .returned (.bool (okC c)) ∧ Below w.heap.size w w' := by
  by_cases h1 : c.k = 1
  · have hb : (c.k == 1) = true := by simpa using h1
    have H : Hid (okC c = true ↔ 0 ≤ c.n ∧ c.n ≤ 99999 ∧ c.s.size = 0) := okC1 h1
    clear h1
    by_cases hn : 0 ≤ c.n ∧ c.n ≤ 99999
    · have hd : decide (0 ≤ c.n ∧ c.n ≤ 99999) = true := by simpa using hn
      by_cases he : 1 ≤ c.s.size
      · have hz := empty_no he
        go_enter Try.func65, Try.ntmps65
        go_wp2_with (go_at_call 72; refine (l1In_any _ _ _ _).mono ?_; rw [hd]; rintro e w' ⟨rfl, rfl⟩)
        go_ret
        exact ⟨ret_bool (iff_no H.out (by omega)), cell_below _ _⟩
      · have hz := empty_yes he
        go_enter Try.func65, Try.ntmps65
        go_wp2_with (go_at_call 72; refine (l1In_any _ _ _ _).mono ?_; rw [hd]; rintro e w' ⟨rfl, rfl⟩)
        go_ret
        exact ⟨ret_bool (H.out.2 (by omega)).symm, cell_below _ _⟩
    · have hd : decide (0 ≤ c.n ∧ c.n ≤ 99999) = false := by simpa using hn
      have HN : Hid (¬ (0 ≤ c.n ∧ c.n ≤ 99999)) := hn
      clear hn
      go_enter Try.func65, Try.ntmps65
      go_wp2_with (go_at_call 72; refine (l1In_any _ _ _ _).mono ?_; rw [hd]; rintro e w' ⟨rfl, rfl⟩)
      go_ret
      exact ⟨ret_bool (iff_no H.out (fun h => HN.out ⟨h.1, h.2.1⟩)), cell_below _ _⟩
  · have hb : (c.k == 1) = false := by simpa using h1
    by_cases h2 : c.k = 2
    · have hb2 : (c.k == 2) = true := by simpa using h2
      have H : Hid (okC c = true ↔ -9999 ≤ c.n ∧ c.n ≤ 9999 ∧ c.s.size = 0) := okC2 h2
      clear h1 h2
      by_cases hn : -9999 ≤ c.n ∧ c.n ≤ 9999
      · have hd : decide (-9999 ≤ c.n ∧ c.n ≤ 9999) = true := by simpa using hn
        by_cases he : 1 ≤ c.s.size
        · have hz := empty_no he
          go_enter Try.func65, Try.ntmps65
          go_wp2_with (go_at_call 72; refine (l1In_any _ _ _ _).mono ?_; rw [hd]; rintro e w' ⟨rfl, rfl⟩)
          go_ret
          exact ⟨ret_bool (iff_no H.out (by omega)), cell_below _ _⟩
        · have hz := empty_yes he
          go_enter Try.func65, Try.ntmps65
          go_wp2_with (go_at_call 72; refine (l1In_any _ _ _ _).mono ?_; rw [hd]; rintro e w' ⟨rfl, rfl⟩)
          go_ret
          exact ⟨ret_bool (H.out.2 (by omega)).symm, cell_below _ _⟩
      · have hd : decide (-9999 ≤ c.n ∧ c.n ≤ 9999) = false := by simpa using hn
        have HN : Hid (¬ (-9999 ≤ c.n ∧ c.n ≤ 9999)) := hn
        clear hn
        go_enter Try.func65, Try.ntmps65
        go_wp2_with (go_at_call 72; refine (l1In_any _ _ _ _).mono ?_; rw [hd]; rintro e w' ⟨rfl, rfl⟩)
        go_ret
        exact ⟨ret_bool (iff_no H.out (fun h => HN.out ⟨h.1, h.2.1⟩)), cell_below _ _⟩
    · have hb2 : (c.k == 2) = false := by simpa using h2
      by_cases h3 : c.k = 3
      · have hb3 : (c.k == 3) = true := by simpa using h3
        have H : Hid (okC c = true ↔ 0 ≤ c.n ∧ c.n ≤ 3 ∧ nameB c.s = true) := okC3 h3
        clear h1 h2 h3
        by_cases hn : 0 ≤ c.n ∧ c.n ≤ 3
        · have hd : decide (0 ≤ c.n ∧ c.n ≤ 3) = true := by simpa using hn
          have HO : Hid (nameB c.s = okC c) := by show _ = _; rw [Bool.eq_iff_iff, H.out]; exact ⟨fun h => ⟨hn.1, hn.2, h⟩, fun h => h.2.2⟩
          go_enter Try.func65, Try.ntmps65
          go_wp2_with (first | (go_at_call 72; refine (l1In_any _ _ _ _).mono ?_; rw [hd]; rintro e w' ⟨rfl, rfl⟩) | (go_at_call 96; refine (l1Name_any _ _ hs).mono ?_; rintro e w' ⟨rfl, rfl⟩))
          go_ret
          exact ⟨ret_bool HO.out, cell_below _ _⟩
        · have hd : decide (0 ≤ c.n ∧ c.n ≤ 3) = false := by simpa using hn
          have HN : Hid (¬ (0 ≤ c.n ∧ c.n ≤ 3)) := hn
          clear hn
          go_enter Try.func65, Try.ntmps65
          go_wp2_with (go_at_call 72; refine (l1In_any _ _ _ _).mono ?_; rw [hd]; rintro e w' ⟨rfl, rfl⟩)
          go_ret
          exact ⟨ret_bool (iff_no H.out (fun h => HN.out ⟨h.1, h.2.1⟩)), cell_below _ _⟩
      · have hb3 : (c.k == 3) = false := by simpa using h3
        have H : Hid (okC c = false) := okC4 h1 h2 h3
        clear h1 h2 h3
        go_enter Try.func65, Try.ntmps65
        go_wp2
        go_ret
        exact ⟨ret_bool (by rw [H.out]), cell_below _ _⟩
end Go.Proofs.Ytcimlcmhodpalaa
