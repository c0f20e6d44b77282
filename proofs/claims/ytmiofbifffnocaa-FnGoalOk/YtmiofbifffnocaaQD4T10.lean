import Derived.Test.YtmiofbifffnocaaQD3
import Derived.Test.YtmiofbifffnocaaQT9
/- What is drawn: places that may be no term (l20Spoil), and either (l20TermOr). -/
namespace Go.Proofs.Ytmiofbifffnocaa
open Go.RowKit
set_option linter.unusedVariables false
set_option linter.unusedSimpArgs false

theorem flat_set_k : ∀ (t : List C) (k : Nat) (h : k < t.length) (x : Int), (flat t).set (k * 3) (.int .i64 x) = flat (t.set k ⟨x, t[k].n, t[k].s⟩)
  | c :: t, 0, _, x => rfl
  | c :: t, k + 1, h, x => by
      have ih := flat_set_k t k (by simpa using h) x
      rw [flat_cons, show (k + 1) * 3 = k * 3 + 1 + 1 + 1 by omega, List.set_cons_succ, List.set_cons_succ, List.set_cons_succ, ih, List.set_cons_succ, flat_cons]
      rfl
theorem flat_set_n : ∀ (t : List C) (k : Nat) (h : k < t.length) (x : Int), (flat t).set (k * 3 + 1) (.int .i64 x) = flat (t.set k ⟨t[k].k, x, t[k].s⟩)
  | c :: t, 0, _, x => rfl
  | c :: t, k + 1, h, x => by
      have ih := flat_set_n t k (by simpa using h) x
      rw [flat_cons, show (k + 1) * 3 + 1 = k * 3 + 1 + 1 + 1 + 1 by omega, List.set_cons_succ, List.set_cons_succ, List.set_cons_succ, ih, List.set_cons_succ, flat_cons]
      rfl
theorem flat_set_s : ∀ (t : List C) (k : Nat) (h : k < t.length) (x : ByteArray), (flat t).set (k * 3 + 2) (.string x) = flat (t.set k ⟨t[k].k, t[k].n, x⟩)
  | c :: t, 0, _, x => rfl
  | c :: t, k + 1, h, x => by
      have ih := flat_set_s t k (by simpa using h) x
      rw [flat_cons, show (k + 1) * 3 + 2 = k * 3 + 2 + 1 + 1 + 1 by omega, List.set_cons_succ, List.set_cons_succ, List.set_cons_succ, ih, List.set_cons_succ, flat_cons]
      rfl
theorem flat_set3 (t : List C) (k : Nat) (h : k < t.length) (c : C) : (((flat t).set (k * 3) (.int .i64 c.k)).set (k * 3 + 1) (.int .i64 c.n)).set (k * 3 + 2) (.string c.s) = flat (t.set k c) := by
  rw [flat_set_k t k h, flat_set_n _ k (by simpa using h), flat_set_s _ k (by simpa using h)]
  simp

theorem flat_take (t : List C) (k : Nat) (h : k ≤ t.length) : (flat t).take (k * 3) = flat (t.take k) := by
  have e : flat t = flat (t.take k) ++ flat (t.drop k) := by rw [← flat_append, List.take_append_drop]
  rw [e, List.take_left' (by rw [flat_length]; simp; omega)]

theorem flat_one (t : List C) : ∀ u ∈ flat t, u.oneCell' = true := by
  intro u hu
  unfold flat at hu
  obtain ⟨c, _, hc⟩ := List.mem_flatMap.1 hu
  simp [cellsOf] at hc
  rcases hc with rfl | rfl | rfl <;> rfl

theorem all_set {P : C → Prop} {t : List C} {k : Nat} {c : C} (h : ∀ d ∈ t, P d) (hc : P c) : ∀ d ∈ t.set k c, P d := fun d hd => by
  rcases List.mem_or_eq_of_mem_set hd with h' | h'
  · exact h d h'
  · subst h'; exact hc

theorem At.each {w : World} {b off : Nat} {t : List C} (h : At w b off t) : ∀ j u, (flat t)[j]? = some u → w.cell? ((⟨b, off, none⟩ : Addr).add j) = some u := by
  intro j u hj
  have hl : j < t.length * 3 := by
    have := (List.getElem?_eq_some_iff.1 hj).1
    rw [flat_length] at this; exact this
  have hk : j / 3 < t.length := by omega
  have f := flat_get t (j / 3) hk
  have a := h (j / 3) hk
  have ad : (⟨b, off, none⟩ : Addr).add j = ⟨b, off + j, none⟩ := by
    unfold Addr.add
    by_cases h0 : j = 0
    · simp [h0]
    · simp [h0]
  rw [ad]
  obtain h0 | h0 | h0 : j = j / 3 * 3 ∨ j = j / 3 * 3 + 1 ∨ j = j / 3 * 3 + 2 := by omega
  · rw [h0, f.1] at hj; rw [h0, ← hj]; exact a.1
  · rw [h0, f.2.1] at hj; rw [h0, ← hj]; exact a.2.1
  · rw [h0, f.2.2] at hj; rw [h0, ← hj]; exact a.2.2

/-- A row of the call's own, behind its cut. -/
theorem own_cut {w : World} {base g cap k : Nat} {t : List C} (h : OwnC w base (.slice (some ⟨g, 0, none⟩) t.length cap) t) (hk : k ≤ t.length) : OwnC w base (.slice (some ⟨g, 0, none⟩) k cap) (t.take k) := by
  have hl : (t.take k).length = k := by simp; omega
  rcases h.2 with ⟨e, _⟩ | ⟨g', cap', cur, e, hb, hg, hn, hc, hcs, htake⟩
  · simp at e
  · simp only [Value.slice.injEq, Option.some.injEq, Addr.mk.injEq, and_true, true_and] at e
    obtain ⟨rfl, rfl⟩ := e
    unfold OwnC
    rw [hl]
    refine ⟨by rw [flat_length, hl], .inr ⟨g, cap, cur, rfl, hb, hg, by omega, hc, hcs, ?_⟩⟩
    rw [← flat_take t k hk, ← htake, List.take_take, Nat.min_eq_left (by omega)]

/-- A place of a row of the call's own. -/
theorem own_place {w : World} {base g cap k : Nat} {t : List C} (h : OwnC w base (.slice (some ⟨g, 0, none⟩) t.length cap) t) (hk : k < t.length) :
    w.cell? ⟨g, k * 3, none⟩ = some (.int .i64 t[k].k) ∧ w.cell? ⟨g, k * 3 + 1, none⟩ = some (.int .i64 t[k].n) ∧ w.cell? ⟨g, k * 3 + 2, none⟩ = some (.string t[k].s) ∧ w.frozen? ⟨g, k * 3, none⟩ = false ∧ w.frozen? ⟨g, k * 3 + 1, none⟩ = false ∧ w.frozen? ⟨g, k * 3 + 2, none⟩ = false := by
  have f := flat_get t k hk
  exact ⟨(h.cellAt (k * 3) (by omega)).trans f.1, (h.cellAt (k * 3 + 1) (by omega)).trans f.2.1, (h.cellAt (k * 3 + 2) (by omega)).trans f.2.2, h.frozenAt _, h.frozenAt _, h.frozenAt _⟩
end Go.Proofs.Ytmiofbifffnocaa

/- The walk of the model's TrmMake. -/
namespace Go.Proofs.Ytmiofbifffnocaa
open Go.RowKit
set_option linter.unusedVariables false
set_option linter.unusedSimpArgs false

theorem trm_lens : ∀ us : List (List C), (∀ t ∈ us, trm t = true) → us.flatten.length ≤ us.length * 40 := by
  intro us
  induction us with
  | nil => intro _; simp
  | cons u us ih =>
    intro hu
    have h1 := (trm_len (hu u (by simp))).2
    have h2 := ih (fun q hq => hu q (by simp [hq]))
    rw [List.flatten_cons, List.length_append, List.length_cons]
    omega

theorem own_one (w : World) (c : C) : OwnC (w.alloc (.cells #[.int .i64 c.k, .int .i64 c.n, .string c.s] 34)) w.heap.size (.slice (some ⟨w.heap.size, 0, none⟩) 1 1) [c] :=
  ⟨rfl, .inr ⟨w.heap.size, 1, _, rfl, Nat.le_refl _, World.alloc_heap_new w _, Nat.le_refl _, by simp [maxLen], rfl, rfl⟩⟩

set_option maxRecDepth 100000 in
set_option maxHeartbeats 4000000 in
theorem specTrmMake_some (b off cap : Nat) (s : ByteArray) (ts : List (List C)) (w : World) (hs : s.size ≤ maxLen) (hl : ts.length ≤ 1048576) (hA : AtS w b off ts) (hF : ∀ t ∈ ts, Fit t) (hm : ∀ t ∈ ts, t.length ≤ maxLen) :
    Calls Try.prog 120 #[.string s, .slice (some ⟨b, off, none⟩) ts.length cap] w fun e w' => ∃ v, e = .returned v ∧ OwnC w' w.heap.size v (makeOf s ts) ∧ Below w.heap.size w w' := by
  obtain ⟨i0, hi, hz0, hz1, hz2⟩ := info_parts Try.infoCell
  have HF := hide hF
  have HM := hide hm
  clear hF hm
  go_enter Try.func120, Try.ntmps120
  go_wp2
  go_loopw [5, 6] (fun o i wr => ∃ k : Nat, k ≤ ts.length ∧ i = .int .i64 k ∧ (∀ t ∈ ts.take k, trm t = true) ∧ OwnC wr w.heap.size o (⟨3, ts.length, s⟩ :: (ts.take k).flatten) ∧ Below w.heap.size w wr) (fun _ i _ => ts.length - (intOf i).toNat)
  case atStart => exact ⟨0, Nat.zero_le _, rfl, by simp, own_one w ⟨3, ts.length, s⟩, cell_below _ _⟩
  case round =>
    obtain ⟨k, hk, rfl, hall, hown, hB⟩ := hrel
    have hyl := trm_lens _ hall
    have HALL := hide hall
    clear hall
    have hkt : (ts.take k).length = k := by rw [List.length_take]; omega
    rw [hkt] at hyl
    clear hkt
    by_cases hlt : k < ts.length
    · obtain ⟨ao, cp, hcl, hcap, hcm, hR⟩ := (hA.below hB) k hlt
      have hFk := unhide HF _ (List.getElem_mem hlt)
      have hMk := unhide HM _ (List.getElem_mem hlt)
      have H3 := hide (specTrmOk_any ao cp (ts[k]'hlt) wr hMk hR hFk)
      have HNO := hide (fun (hn : trm (ts[k]'hlt) = false) => makeOf_no (s := s) (List.getElem_mem hlt) hn)
      have HTA : Hid (trm (ts[k]'hlt) = true → ∀ t ∈ ts.take (k + 1), trm t = true) := fun hy t ht => by
        rw [List.take_succ_eq_append_getElem hlt] at ht
        rcases List.mem_append.1 ht with ht | ht
        · exact unhide HALL t ht
        · simp at ht; rw [ht]; exact hy
      have HFL : Hid ((⟨3, ts.length, s⟩ : C) :: (ts.take (k + 1)).flatten = ((⟨3, ts.length, s⟩ : C) :: (ts.take k).flatten) ++ ts[k]'hlt) := by
        show _ = _
        rw [List.take_succ_eq_append_getElem hlt, List.flatten_append]; simp
      obtain ⟨t, ht⟩ : ∃ t, t = ts[k]'hlt := ⟨_, rfl⟩
      rw [← ht] at hcl hR hFk hMk HNO H3 HTA HFL hcap
      clear ht
      have hyl' : ((⟨3, ts.length, s⟩ : C) :: (ts.take k).flatten).length ≤ 41943041 := by rw [List.length_cons]; omega
      obtain ⟨y, hy⟩ : ∃ y, y = (⟨3, ts.length, s⟩ : C) :: (ts.take k).flatten := ⟨_, rfl⟩
      rw [← hy] at hown HFL hyl'
      clear hy hyl
      obtain ⟨oa, oc, rfl, _⟩ := hown.shape
      cases hok : trm t with
      | false =>
        rw [hok] at H3
        have HE := hide (unhide HNO hok)
        go_wp2_with (go_at_call 14; refine (unhide H3).mono ?_; rintro e w1 ⟨rfl, hb1⟩)
        go_ret
        exact ⟨_, rfl, by rw [unhide HE]; exact made_nil (bstep hB hb1), bstep (bstep hB hb1) (cell_below _ _)⟩
      | true =>
        rw [hok] at H3
        have htl := trm_len hok
        have HT' := hide (unhide HTA hok)
        rcases hR with h0 | ⟨b2, off2, rfl, hA2⟩
        · rw [h0] at htl; simp at htl
        have hbl2 : b < wr.heap.size := World.block_lt_of_cell? wr ⟨b, off + k, none⟩ hcl
        clear hok HTA HNO
        go_wp2_with fail
        refine (unhide H3).mono ?_
        rintro e w1 ⟨rfl, hb1⟩
        have hown1 := OwnC.below hown hb1
        have hB1 := bstep hB hb1
        have hcl1 := (hb1.cell (p := ⟨b, off + k, none⟩) hbl2).trans hcl
        have HA1 := hide (hA2.below hb1).each
        have hfl : (flat t).length = t.length * 3 := flat_length t
        have HFLL := hide hfl
        clear hfl
        go_wp2_with (at_builtin; refine wpList_append_own _ rfl (.tmp 25) (.tmp 29) 27 rfl w.heap.size 34 i0 _ 3 32 Try.underlying27 hi hz0 hz1 hz2 rfl (by decide) _ _ _ rfl hown1 ⟨b2, off2, none⟩ t.length cp (flat t) rfl (unhide HFLL) (unhide HA1) (flat_one t) ?s3 ?s4 ?s5 ?_)
        case s3 => unfold maxLen; omega
        case s4 => omega
        case s5 => exact hB1.size
        intro v3 w3 ho3 hG3 _
        have hb3 : Below w.heap.size w w3 := hB1.grown hG3 hB1.size (fun j e => (hown1.lt j e).1)
        have HO3 : Hid (OwnC w3 w.heap.size v3 (y ++ t)) := by
          show OwnC w3 w.heap.size v3 (y ++ t)
          unfold OwnC
          rw [List.length_append, flat_append]
          exact ho3
        clear ho3 hG3
        go_wp2
        go_roundw
        case rel => exact ⟨k + 1, by omega, by go_num, unhide HT', by rw [unhide HFL]; exact unhide HO3, hb3⟩
        case measure => simp [intOf]; omega
    · have e : k = ts.length := by omega
      subst e
      have hall := unhide HALL
      rw [List.take_length] at hall hown
      have HE := hide (makeOf_all (s := s) hall)
      have HFY : Hid (Fit ((⟨3, ts.length, s⟩ : C) :: ts.flatten)) := fun c hc => by
        rcases List.mem_cons.1 hc with rfl | hc
        · exact hs
        · obtain ⟨t, ht, hc⟩ := List.mem_flatten.1 hc
          exact unhide HF t ht c hc
      have hyl2 := trm_lens _ hall
      have hyl' : ((⟨3, ts.length, s⟩ : C) :: ts.flatten).length ≤ 41943041 := by rw [List.length_cons]; omega
      obtain ⟨y, hy⟩ : ∃ y, y = (⟨3, ts.length, s⟩ : C) :: ts.flatten := ⟨_, rfl⟩
      rw [← hy] at hown HE hyl' HFY
      clear hy hyl hyl2 hall
      obtain ⟨oa, oc, rfl, hRo⟩ := hown.shape
      have H3 := hide (specTrmOk_any oa oc y wr (by unfold maxLen; omega) hRo (unhide HFY))
      cases hok : trm y with
      | false =>
        rw [hok] at H3
        go_wp2_with (go_at_call 14; refine (unhide H3).mono ?_; rintro e w1 ⟨rfl, hb1⟩)
        go_ret
        exact ⟨_, rfl, by rw [unhide HE, listed, hok]; exact made_nil (bstep hB hb1), bstep (bstep hB hb1) (cell_below _ _)⟩
      | true =>
        rw [hok] at H3
        go_wp2_with (go_at_call 14; refine (unhide H3).mono ?_; rintro e w1 ⟨rfl, hb1⟩)
        go_ret
        exact ⟨_, rfl, by rw [unhide HE, listed, hok]; exact OwnC.below hown hb1, bstep hB hb1⟩
end Go.Proofs.Ytmiofbifffnocaa
