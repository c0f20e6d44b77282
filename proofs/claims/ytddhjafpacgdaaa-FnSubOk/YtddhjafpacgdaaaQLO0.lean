/- Bindings laid anew with one more behind them: what append leaves; what SubOk is of a beginning, and of a variable bound once more. -/
import Derived.Test.YtddhjafpacgdaaaQUF4CB1L1LU1
namespace Go.Proofs.Ytddhjafpacgdaaa
open Go.RowKit
set_option linter.unusedVariables false
set_option linter.unusedSimpArgs false

/-- Bindings in a row whose terms lie anywhere. -/
theorem rowB_flat {W : World} {base g n cap : Nat} {l : List B} {us : List Value} (h : W.ownsRow base 51 2 (.slice (some ⟨g, 0, none⟩) n cap) n (flatB l us)) (hl : us.length = l.length) (hn : n = l.length)
    (hr : ∀ i, (h1 : i < l.length) → (h2 : i < us.length) → ∃ ao cp, us[i] = .slice ao l[i].t.length cp ∧ l[i].t.length ≤ cp ∧ cp ≤ maxLen ∧ Row W ao l[i].t) : RowB W (some ⟨g, 0, none⟩) l := by
  subst hn
  refine .inr ⟨g, 0, rfl, fun i hi => ?_⟩
  have hi2 : i < us.length := by omega
  have f := flatB_get l us hl i hi hi2
  have e0 := h.cellAt (i * 2) (by omega)
  have e1 := h.cellAt (i * 2 + 1) (by omega)
  obtain ⟨ao, cp, eu, h1, h2, h3⟩ := hr i hi hi2
  rw [Nat.zero_add]
  exact ⟨e0.trans f.1, ao, cp, by rw [e1, f.2, eu], h1, h2, h3⟩

/-- The terms' slices of bindings in memory. -/
def UsB (W : World) (s : List B) (us : List Value) : Prop := us.length = s.length ∧ ∀ i, (h1 : i < s.length) → (h2 : i < us.length) → ∃ ao cp, us[i] = .slice ao s[i].t.length cp ∧ s[i].t.length ≤ cp ∧ cp ≤ maxLen ∧ Row W ao s[i].t
theorem UsB.below {W W' : World} {s : List B} {us : List Value} (h : UsB W s us) (hb : Below W.heap.size W W') : UsB W' s us :=
  ⟨h.1, fun i h1 h2 => by
    obtain ⟨ao, cp, e, a, b, c⟩ := h.2 i h1 h2
    exact ⟨ao, cp, e, a, b, c.below hb⟩⟩
theorem UsB.snoc {W : World} {s : List B} {us : List Value} (h : UsB W s us) {k : Nat} (hk : k < s.length) (hk2 : k < us.length) : UsB W (s ++ [s[k]]) (us ++ [us[k]]) := by
  refine ⟨by simp [h.1], fun i h1 h2 => ?_⟩
  by_cases hi : i < s.length
  · have hi2 : i < us.length := by rw [h.1]; exact hi
    rw [List.getElem_append_left hi, List.getElem_append_left hi2]
    exact h.2 i hi hi2
  · have e : i = s.length := by simp at h1; omega
    subst e
    have e1 : (s ++ [s[k]])[s.length]'h1 = s[k] := by simp
    have e2 : (us ++ [us[k]])[s.length]'h2 = us[k] := by
      rw [List.getElem_append_right (by rw [h.1]; exact Nat.le_refl _)]
      simp
    rw [e1, e2]
    exact h.2 k hk hk2
theorem OwnB.us {w : World} {lo hi : Nat} {v : Value} {s : List B} (h : OwnB w lo hi v s) : ∃ us, UsB w s us ∧ w.ownsRow lo 51 2 v s.length (flatB s us) := by
  obtain ⟨us, h1, h2, h3, h4, h5, h6⟩ := h
  refine ⟨us, ⟨h1, fun i q1 q2 => ?_⟩, h2⟩
  have ho := h3 i q1 q2
  rcases ho.2 with ⟨eu, hn⟩ | ⟨gu, cu, _, eu, _, hgb, a1, a2, _⟩
  · have ht : s[i].t = [] := List.length_eq_zero_iff.1 hn
    exact ⟨none, 0, by rw [eu, ht]; rfl, by rw [ht]; simp, by simp, .inl ht⟩
  · refine ⟨some ⟨gu, 0, none⟩, cu, eu, a1, a2, ?_⟩
    rw [eu] at ho
    exact .inr ⟨gu, 0, rfl, owns_at ho rfl⟩
theorem flatB_mem : ∀ {s : List B} {us : List Value} {u : Value}, u ∈ flatB s us → (∃ x : Int, u = .int .i64 x) ∨ u ∈ us
  | [], _, u, h => by simp [flatB] at h
  | _ :: _, [], u, h => by simp [flatB] at h
  | x :: s, v :: us, u, h => by
      simp only [flatB, List.mem_cons] at h
      rcases h with rfl | rfl | h
      · exact .inl ⟨_, rfl⟩
      · exact .inr (by simp)
      · rcases flatB_mem h with h | h
        · exact .inl h
        · exact .inr (by simp [h])
theorem UsB.one {W : World} {s : List B} {us : List Value} (h : UsB W s us) : ∀ u ∈ flatB s us, u.oneCell' = true := fun u hu => by
  rcases flatB_mem hu with ⟨x, rfl⟩ | hu
  · rfl
  · obtain ⟨i, hi, rfl⟩ := List.getElem_of_mem hu
    obtain ⟨ao, cp, e, _⟩ := h.2 i (by rw [← h.1]; exact hi) hi
    rw [e]; rfl

/-- append of all bindings to an empty list. -/
theorem app_first (W : World) (base eb sb sc : Nat) (s : List B) (us : List Value) (hown : W.ownsRow base 51 2 (.slice (some ⟨eb, 0, none⟩) 0 0) 0 []) (hbase : base ≤ W.heap.size) (hU : UsB W s us) (hc : ∀ j u, (flatB s us)[j]? = some u → W.cell? ((⟨sb, 0, none⟩ : Addr).add j) = some u) (hp : 0 < s.length) (hs : s.length ≤ 20000) :
    ∃ g cap w', (Builtin.append_ #[38, 38] 38 #[.slice (some ⟨eb, 0, none⟩) 0 0, .slice (some ⟨sb, 0, none⟩) s.length sc]).run Try.prog W = .ok (.slice (some ⟨g, 0, none⟩) s.length cap) w' ∧
      w'.ownsRow base 51 2 (.slice (some ⟨g, 0, none⟩) s.length cap) s.length (flatB s us) ∧ W.grownBy w' (some eb) := by
  obtain ⟨i0, hi, hz0, hz1, hz2⟩ := info_parts Try.infoSub
  obtain ⟨g, cap, w', hr, ho, hg, _, _⟩ := run_append_lies (P := Try.prog) W 38 38 base 51 i0 _ 2 32 Try.underlying38 hi hz0 hz1 hz2 rfl (by decide) (.slice (some ⟨eb, 0, none⟩) 0 0) 0 [] hown ⟨sb, 0, none⟩ s.length sc (flatB s us) (flatB_length s us hU.1) hc hU.one hp (by unfold maxLen; omega) (by omega) hbase _ rfl
  rw [Nat.zero_add] at hr ho
  exact ⟨g, cap, w', hr, by simpa using ho, hg⟩

/-- append of one more binding. -/
theorem app_second (W w2 : World) (base g cap ob k : Nat) (s : List B) (us : List Value) (hown : W.ownsRow base 51 2 (.slice (some ⟨g, 0, none⟩) s.length cap) s.length (flatB s us)) (hbase : base ≤ W.heap.size) (hU : UsB w2 s us) (hb : Below w2.heap.size w2 W) (hb2 : w2.heap.size ≤ base) (hk : k < s.length) (hk2 : k < us.length)
    (c0 : W.cell? ⟨ob, 0, none⟩ = some (.int .i64 s[k].v)) (c1 : W.cell? ⟨ob, 1, none⟩ = some us[k]) (hs : s.length ≤ 20000) :
    ∃ g2 cap2 w', (Builtin.append_ #[38, 38] 38 #[.slice (some ⟨g, 0, none⟩) s.length cap, .slice (some ⟨ob, 0, none⟩) 1 1]).run Try.prog W = .ok (.slice (some ⟨g2, 0, none⟩) (s.length + 1) cap2) w' ∧
      RowB w' (some ⟨g2, 0, none⟩) (s ++ [s[k]]) ∧ Below w2.heap.size w2 w' := by
  obtain ⟨i0, hi, hz0, hz1, hz2⟩ := info_parts Try.infoSub
  obtain ⟨ao, cp, eu, _⟩ := hU.2 k hk hk2
  obtain ⟨g2, cap2, w', hr, ho, hg, _, _⟩ := run_append_lies (P := Try.prog) W 38 38 base 51 i0 _ 2 32 Try.underlying38 hi hz0 hz1 hz2 rfl (by decide) (.slice (some ⟨g, 0, none⟩) s.length cap) s.length (flatB s us) hown ⟨ob, 0, none⟩ 1 1 [.int .i64 s[k].v, us[k]] rfl (fun j u h => by
      match j with
      | 0 => simp at h; subst h; exact c0
      | 1 => simp at h; subst h; exact c1
      | j + 2 => simp at h) (fun u hu => by
      simp at hu
      rcases hu with rfl | rfl
      · rfl
      · rw [eu]; rfl) (by omega) (by unfold maxLen; omega) (by omega) hbase _ rfl
  have hbw : Below w2.heap.size w2 w' := hb.grown hg hb.size (fun j e => by have := (hown.lt j e).1; omega)
  refine ⟨g2, cap2, w', hr, rowB_flat (n := s.length + 1) (cap := cap2) (base := base) (us := us ++ [us[k]]) (l := s ++ [s[k]]) ?_ (by simp [hU.1]) (by simp) ((hU.below hbw).snoc hk hk2).2, hbw⟩
  rw [flatB_append _ _ _ _ hU.1]
  simpa [flatB] using ho

theorem FewK.take {k : Nat} {s r : List B} (h : FewK k (s ++ r)) : FewK k s := by
  obtain ⟨V, h1, h2⟩ := h.vars
  exact ⟨by have := h.len; simp at this; omega, fun x hx => h.short x (by simp [hx]), fun x hx => h.fit x (by simp [hx]), V, h1, fun x hx => h2 x (by simp [hx])⟩

/-- A beginning of bindings that are ok is ok; a variable bound once more is not. -/
theorem subOk_take {s : List B} (h : subOk s = true) (k : Nat) : subOk (s.take k) = true := by
  have hg := subOk_good h
  refine good_subOk ⟨⟨?_, fun x hx => hg.ok.term x (List.mem_of_mem_take hx), ?_⟩, fun x hx => hg.short x (List.mem_of_mem_take hx), fun x hx => hg.range x (List.mem_of_mem_take hx)⟩
  · have := hg.ok.once
    unfold Once at this ⊢
    rw [List.map_take]
    exact this.sublist (List.take_sublist _ _)
  · obtain ⟨ρ, hρ⟩ := hg.ok.rank
    have key : ∀ v, getB (s.take k) v ≠ [] → getB s v = getB (s.take k) v := fun v hv => by
      obtain ⟨x, hx, e1, e2⟩ := getB_mem hv
      rw [← e2, ← e1]
      exact getB_of hg.ok.once (List.mem_of_mem_take hx)
    refine ⟨ρ, fun v u hu hb => hρ v u ?_ ?_⟩
    · rw [key v (ne_of_varIn hu)]; exact hu
    · rw [key u hb]; exact hb
theorem subOk_twice {s : List B} {k : Nat} (hk : k < s.length) : subOk (s ++ [s[k]]) = false := by
  cases e : subOk (s ++ [s[k]]) with
  | false => rfl
  | true =>
    have h := (subOk_good e).ok.once
    unfold Once at h
    rw [List.map_append, List.nodup_append] at h
    exact absurd rfl (h.2.2 s[k].v (List.mem_map.2 ⟨_, List.getElem_mem hk, rfl⟩) s[k].v (by simp))
end Go.Proofs.Ytddhjafpacgdaaa
