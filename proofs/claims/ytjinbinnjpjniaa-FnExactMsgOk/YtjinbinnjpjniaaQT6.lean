/- The walk of the model's TrmArg. -/
import Derived.Test.YtjinbinnjpjniaaQW18T5BR1BG1
import Derived.Test.YtjinbinnjpjniaaQW4W6SB2SB3
import Derived.Test.YtjinbinnjpjniaaQD4SG1SL1SO1
namespace Go.Proofs.Ytjinbinnjpjniaa
open Go.RowKit
set_option linter.unusedVariables false
set_option linter.unusedSimpArgs false

theorem drop_trees (c : C) (ks : List (List C)) (j : Nat) : (c :: ks.flatten).drop (1 + (ks.take j).flatten.length) = (ks.drop j).flatten := by
  rw [Nat.add_comm, List.drop_succ_cons]
  conv => lhs; rw [← List.take_append_drop j ks, List.flatten_append]
  rw [List.take_append_drop, List.drop_left]

theorem end_at {f : Nat} {c : C} {ks : List (List C)} (hk : ∀ k ∈ ks, Tm f k) {j : Nat} (hj : j < ks.length) : endV (c :: ks.flatten) (1 + (ks.take j).flatten.length) = ((1 + (ks.take j).flatten.length + ks[j].length : Nat) : Int) := by
  unfold endV
  rw [drop_trees, List.drop_eq_getElem_cons hj, List.flatten_cons]
  have e := ends_of_tree f ks[j] (hk _ (List.getElem_mem hj)) 0 (ks.drop (j + 1)).flatten
  have z : ∀ r, ends (0 : Nat) r = some 0 := fun r => by cases r <;> simp [ends]
  rw [z] at e
  simp at e
  rw [e]
  simp

theorem len_trees (ks : List (List C)) {j : Nat} (hj : j < ks.length) : (ks.take j).flatten.length + ks[j].length + (ks.drop (j + 1)).flatten.length = ks.flatten.length := by
  conv => rhs; rw [← List.take_append_drop j ks, List.drop_eq_getElem_cons hj]
  simp only [List.flatten_append, List.flatten_cons, List.length_append]
  omega

set_option maxRecDepth 100000 in
set_option maxHeartbeats 1000000 in
theorem l1Arg_in (b off cap f : Nat) (c : C) (ks : List (List C)) (k : Nat) (t : List C) (ht : t = c :: ks.flatten) (w : World) (hy : trm t = true) (hcap : t.length ≤ cap) (hcm : cap ≤ maxLen) (hA : At w b off t)
    (hl : (ks.length : Int) = ari c) (hk : ∀ k ∈ ks, Tm f k) (hkl : k < ks.length) :
    Calls Try.prog 83 #[.slice (some ⟨b, off, none⟩) t.length cap, .int .i64 k] w fun e w' => ∃ v, e = .returned v ∧ OwnC w' w.heap.size v ks[k] ∧ Below w.heap.size w w' := by
  have hy' := (trm_iff t).1 hy
  have hpos : 0 < t.length := hy'.1
  have h40 := hy'.2.1
  obtain ⟨c0, c1, c2⟩ := hA 0 hpos
  have h0 : t[0] = c := by subst ht; rfl
  rw [h0] at c0 c1 c2
  simp at c0 c1 c2
  have h3 : c.k = 3 := by
    by_cases h : c.k = 3
    · exact h
    · have ha0 : ari c = 0 := by simp [ari, h]
      rw [ha0] at hl; omega
  have hb : (c.k != 3) = false := by simpa using h3
  have han : ari c = c.n := by simp [ari, h3]
  rw [han] at hl
  have hkn : (k : Int) < c.n := by omega
  have hk3 : k < 3 := by have := (ari_ok (hy'.2.2.1 c (by rw [ht]; simp))).2; omega
  have HE : Hid (∀ j, (hj : j < ks.length) → endV t (1 + (ks.take j).flatten.length) = ((1 + (ks.take j).flatten.length + ks[j].length : Nat) : Int)) := fun j hj => by rw [ht]; exact end_at hk hj
  have hlt : t.length = 1 + ks.flatten.length := by rw [ht]; simp only [List.length_cons]; omega
  have HLT := hide hlt
  have HP : Hid (∀ q ∈ ks, 1 ≤ q.length) := fun q hq => (hk q hq).pos
  have HT := hide ht
  have HA := hide hA
  have HY := hide hy'.2.2.1
  have hle : ∀ j, j < ks.length → 1 + (ks.take j).flatten.length ≤ t.length := fun j hj => by have := len_trees ks hj; omega
  have HLE := hide hle
  clear ht h0 hy hy' hlt hA hle hk h3 han
  obtain ⟨i0, hi, hz0, hz1, hz2⟩ := info_parts Try.infoCell
  go_enter Try.func83, Try.ntmps83
  go_wp2_with fail
  go_loop [5, 6] (fun at' i => ∃ j m : Nat, j ≤ k ∧ i = .int .i64 j ∧ at' = .int .i64 m ∧ m = 1 + (ks.take j).flatten.length) (fun _ i => k - (intOf i).toNat)
  case atStart => exact ⟨0, 1, Nat.zero_le _, rfl, rfl, rfl⟩
  case round =>
    obtain ⟨j, m, hj, rfl, rfl, hmm⟩ := hrel
    have hm40 : m ≤ t.length := by rw [hmm]; exact unhide HLE j (by omega)
    have HM := hide hmm
    have he : endV t m = ((m + ks[j].length : Nat) : Int) := by rw [hmm]; exact unhide HE j (by omega)
    obtain ⟨d, hd⟩ : ∃ d, d = ks[j].length := ⟨_, rfl⟩
    rw [← hd] at he
    have HD := hide hd
    have H := hide (l1End_some b off cap m t w h40 hm40 (unhide HA) (unhide HY))
    rw [he] at H
    have HEM := hide he
    clear hmm he hd
    by_cases hjk : j < k
    · go_wp2_with (go_at_call 56; refine (unhide H).mono ?_; rintro e w1 ⟨rfl, rfl⟩)
      refine ⟨⟨j + 1, m + d, by omega, by go_num, by simp, ?_⟩, by simp [intOf]; omega⟩
      rw [List.take_succ_eq_append_getElem (by omega), List.flatten_append, List.length_append, unhide HM, unhide HD]
      simp
      omega
    · have hjk' : j = k := by omega
      subst hjk'
      have hdp : 1 ≤ d := by rw [unhide HD]; exact unhide HP _ (List.getElem_mem hkl)
      have hmd : m + d ≤ t.length := by have := len_trees ks hkl; have := unhide HLT; rw [unhide HD, unhide HM]; omega
      have hcd : ¬ cap = m := by omega
      have hcm' := hcm
      unfold maxLen at hcm'
      have HV : Hid (At w b (off + m * 3) ks[j]) := fun i hi => by
        have hA := unhide HA (m + i) (by have := unhide HD; omega)
        have e : t[m + i]'(by have := unhide HD; omega) = ks[j][i] := by
          have h1 : t.drop m = ks[j] ++ (ks.drop (j + 1)).flatten := by
            rw [unhide HT, unhide HM, drop_trees, List.drop_eq_getElem_cons hkl, List.flatten_cons]
          have h2 : (t.drop m)[i]? = some ks[j][i] := by rw [h1, List.getElem?_append_left hi, List.getElem?_eq_getElem hi]
          rw [List.getElem?_drop, List.getElem?_eq_getElem (by have := unhide HD; omega)] at h2
          exact Option.some.inj h2
        rw [e] at hA
        rw [show off + m * 3 + i * 3 = off + (m + i) * 3 by omega]
        exact hA
      have H2 := hide (l1End_some b off cap m t (w.alloc (.cells #[] 55)) h40 hm40 ((unhide HA).below (cell_below _ _)) (unhide HY))
      rw [unhide HEM] at H2
      have HW : Hid (At (w.alloc (.cells #[] 55)) b (off + m * 3) ks[j]) := (unhide HV).below (cell_below _ _)
      have HA1 := hide (unhide HW).each
      have hfl : (flat ks[j]).length = (m + d - m) * 3 := by rw [flat_length, Nat.add_sub_cancel_left, unhide HD]
      have HFL := hide hfl
      clear hfl
      go_wp2_with (first | (go_at_call 56; refine (unhide H2).mono ?_; rintro e w1 ⟨rfl, rfl⟩) | (at_builtin; refine wpList_append_own _ rfl (.tmp 33) (.tmp 39) 29 rfl w.heap.size 55 i0 _ 3 32 Try.underlying29 hi hz0 hz1 hz2 rfl (by decide) _ _ _ rfl (World.ownsRow_made w #[] 0 (Nat.le_refl _) (by simp [maxLen]) rfl) ⟨b, off + m * 3, none⟩ (m + d - m) (cap - m) (flat ks[j]) rfl (unhide HFL) (unhide HA1) (flat_one ks[j]) ?s3 ?s4 ?s5 ?_))
      case s3 => unfold maxLen; omega
      case s4 => omega
      case s5 => simp
      intro v3 w3 ho3 hG3 _
      have hb3 : Below w.heap.size w w3 := (cell_below w (.cells #[] 55)).grown hG3 (by simp) (fun k e => by simp [Value.ownBlock] at e; omega)
      have HO3 : Hid (OwnC w3 w.heap.size v3 ks[j]) := by
        show OwnC w3 w.heap.size v3 ks[j]
        unfold OwnC
        rw [← unhide HD]
        exact ho3
      clear ho3 hG3
      go_wp2
      go_ret
      exact ⟨_, rfl, unhide HO3, hb3⟩

set_option maxRecDepth 100000 in
set_option maxHeartbeats 1000000 in
theorem l1Arg_out (b off cap : Nat) (c : C) (u : List C) (k : Int) (w : World) (hA : At w b off (c :: u)) (h : c.k ≠ 3 ∨ k < 0 ∨ c.n ≤ k) :
    Calls Try.prog 83 #[.slice (some ⟨b, off, none⟩) (c :: u).length cap, .int .i64 k] w fun e w' => ∃ v, e = .returned v ∧ OwnC w' w.heap.size v [] ∧ Below w.heap.size w w' := by
  obtain ⟨c0, c1, c2⟩ := hA 0 (by simp)
  simp at c0 c1 c2
  simp only [List.length_cons]
  have HB := hide hA
  clear hA
  by_cases h3 : c.k = 3
  · have hb : (c.k != 3) = false := by simpa using h3
    have h' : k < 0 ∨ c.n ≤ k := by rcases h with h | h; exact absurd h3 h; exact h
    have H' := hide h'
    clear h h' h3
    by_cases hk0 : k < 0
    · go_enter Try.func83, Try.ntmps83
      go_wp2
      go_ret
      exact ⟨_, rfl, World.ownsRow_made w #[] 0 (Nat.le_refl _) (by simp [maxLen]) rfl, cell_below _ _⟩
    · have hkn : c.n ≤ k := by rcases unhide H' with h | h; exact absurd h hk0; exact h
      go_enter Try.func83, Try.ntmps83
      go_wp2
      go_ret
      exact ⟨_, rfl, World.ownsRow_made w #[] 0 (Nat.le_refl _) (by simp [maxLen]) rfl, cell_below _ _⟩
  · have hb : (c.k != 3) = true := by simpa using h3
    clear h h3
    go_enter Try.func83, Try.ntmps83
    go_wp2
    go_ret
    exact ⟨_, rfl, World.ownsRow_made w #[] 0 (Nat.le_refl _) (by simp [maxLen]) rfl, cell_below _ _⟩

theorem trm_kids {t : List C} (h : trm t = true) : ∃ f c ks, t = c :: ks.flatten ∧ ((ks : List (List C)).length : Int) = ari c ∧ ∀ k ∈ ks, Tm f k := by
  have := trm_tree h
  obtain ⟨n, hn⟩ : ∃ n, t.length = n + 1 := ⟨t.length - 1, by have := (trm_iff t).1 h; omega⟩
  rw [hn] at this
  obtain ⟨c, ks, e, hl, hk⟩ := this
  exact ⟨n, c, ks, e, hl, hk⟩

theorem l1Arg_any (ao : Option Addr) (cap : Nat) (t : List C) (k : Int) (w : World) (hy : trm t = true) (hcap : t.length ≤ cap) (hcm : cap ≤ maxLen) (hA : Row w ao t) :
    Calls Try.prog 83 #[.slice ao t.length cap, .int .i64 k] w fun e w' => ∃ v, e = .returned v ∧ OwnC w' w.heap.size v (argOf t k) ∧ Below w.heap.size w w' := by
  rcases hA with rfl | ⟨b, off, rfl, hA⟩
  · rw [trm_nil] at hy; cases hy
  obtain ⟨f, c, ks, rfl, hl, hk⟩ := trm_kids hy
  have hoc := ((trm_iff _).1 hy).2.2.1 c (by simp)
  by_cases h0 : k < 0
  · rw [argOf_neg h0]
    exact l1Arg_out b off cap c _ k w hA (.inr (.inl h0))
  · rw [argOf_at hy hl hk (by omega)]
    obtain ⟨j, rfl⟩ := Int.eq_ofNat_of_zero_le (show 0 ≤ k by omega)
    rw [Int.toNat_natCast]
    by_cases hj : j < ks.length
    · rw [List.getElem?_eq_getElem hj]
      exact l1Arg_in b off cap f c ks j _ rfl w hy hcap hcm hA hl hk hj
    · rw [List.getElem?_eq_none (by omega)]
      refine l1Arg_out b off cap c _ _ w hA ?_
      by_cases h3 : c.k = 3
      · have : ari c = c.n := by simp [ari, h3]
        right; right; omega
      · exact .inl h3

end Go.Proofs.Ytjinbinnjpjniaa
