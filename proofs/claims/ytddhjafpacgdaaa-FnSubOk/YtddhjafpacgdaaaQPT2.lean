/- What SubUnify and SubFull tell, by substitutions: what the laws of the second chapter say of them. -/
import Derived.Test.YtddhjafpacgdaaaQPT1
import Derived.Test.YtddhjafpacgdaaaQUF1UF2
namespace Go.Proofs.Ytddhjafpacgdaaa
set_option linter.unusedVariables false
set_option linter.unusedSimpArgs false

theorem good_subOk {s : List B} (h : GoodB s) : subOk s = true := by
  obtain ⟨ρ, hρ⟩ := h.ok.rank
  have hn := ranked_noRing hρ
  refine subOk_yes (fun k hk => ⟨h.range _ (List.getElem_mem hk), ?_, fun hr => ?_, fun j hj hjk e => ?_⟩)
  · have ht := h.ok.term _ (List.getElem_mem hk)
    obtain ⟨⟨f, hf⟩, ho⟩ := ht
    exact tree_trm hf (h.short _ (List.getElem_mem hk)) ho
  · have hg := getB_of h.ok.once (List.getElem_mem hk)
    rw [← hg] at hr
    exact hn _ (by rw [hg]; exact (h.ok.term _ (List.getElem_mem hk)).ne) hr
  · have h2 := h.ok.once
    unfold Once at h2
    have := (List.getElem_inj (i := j) (j := k) (h₀ := by simpa using hj) (h₁ := by simpa using hk) h2).1 (by simpa using e)
    omega
theorem subOk_good {s : List B} (h : subOk s = true) : GoodB s := ⟨subOk_okB h, fun x hx => (trm_len ((subOk_parts h).2 x hx)).2, (subOk_parts h).1⟩

/-- What a term is with all that is bound laid in. -/
theorem exp_ev {s : List B} (hs : OkB s) {t : List C} (ho : ∀ c ∈ t, okC c = true) : ∃ n, Exp s n t (app (ev s) t) := by
  obtain ⟨ρ, hρ⟩ := hs.rank
  obtain ⟨n, z, hE⟩ := exp_all hρ t
  rw [← exp_app hE ho]
  exact ⟨n, hE⟩
theorem fullB_ev {s : List B} {t : List C} (hs : subOk s = true) (ht : trm t = true) : fullB s t = if (app (ev s) t).length ≤ 40 then some (app (ev s) t) else none := by
  obtain ⟨n, hE⟩ := exp_ev (subOk_okB hs) (trm_Trm ht).2
  unfold fullB
  rw [if_pos ⟨hs, ht⟩, fullOk_of hE]
theorem app_trm {s : List B} {t : List C} (hs : subOk s = true) (ht : trm t = true) (hl : (app (ev s) t).length ≤ 40) : trm (app (ev s) t) = true := by
  obtain ⟨n, hE⟩ := exp_ev (subOk_okB hs) (trm_Trm ht).2
  obtain ⟨⟨f, hf⟩, ho⟩ := hE.trm (subOk_okB hs) (trm_Trm ht)
  exact tree_trm hf hl ho

/-- What SubUnify tells, by substitutions. -/
theorem um_ev {s : List B} {a b : List C} {o : List B} {h : Int} (hM : UM s a b o h) :
    (h = 4 ∧ o = [] ∧ ¬ (subOk s = true ∧ trm a = true ∧ trm b = true)) ∨
    ((subOk s = true ∧ trm a = true ∧ trm b = true) ∧ ∃ n res sf, Uni n s [(a, b)] res sf ∧
      ((h = 3 ∧ o = [] ∧ (¬ ((app (ev s) a).length ≤ 40 ∧ (app (ev s) b).length ≤ 40) ∨ ∃ s', res = some s' ∧ ¬ (app (ev s') a).length ≤ 40)) ∨
       ((app (ev s) a).length ≤ 40 ∧ (app (ev s) b).length ≤ 40 ∧
         ((h = 2 ∧ o = [] ∧ res = none) ∨ (h = 1 ∧ res = some o ∧ (app (ev o) a).length ≤ 40 ∧ sf = o))))) := by
  rcases hM with ⟨hc, a', b', res, sf, a'', hw, rfl, rfl⟩ | ⟨hn, rfl, rfl⟩
  · obtain ⟨h1, h2, h3⟩ := hc
    have hs := subOk_okB h1
    obtain ⟨n1, hE1⟩ := hw.ea
    obtain ⟨n2, hE2⟩ := hw.eb
    obtain ⟨n, hU⟩ := hw.un
    have e1 := exp_app hE1 (trm_Trm h2).2
    have e2 := exp_app hE2 (trm_Trm h3).2
    have hp : Prs [(a, b)] := fun p hp => by simp at hp; subst hp; exact ⟨trm_Trm h2, trm_Trm h3⟩
    have hok := hU.ok hs hp
    refine .inr ⟨⟨h1, h2, h3⟩, n, res, sf, hU, ?_⟩
    rw [← e1, ← e2]
    by_cases hl : a'.length ≤ 40 ∧ b'.length ≤ 40
    · cases res with
      | none => exact .inr ⟨hl.1, hl.2, .inl ⟨by unfold uwH; rw [if_pos hl], by unfold uwO; rw [if_pos hl], rfl⟩⟩
      | some s' =>
        obtain ⟨n3, hE3⟩ := hw.ec s' rfl
        have e3 := exp_app hE3 (trm_Trm h2).2
        by_cases hl2 : a''.length ≤ 40
        · have eo : uwO a' b' (some s') a'' = s' := by unfold uwO; rw [if_pos hl]; simp [hl2]
          refine .inr ⟨hl.1, hl.2, .inr ⟨by unfold uwH; rw [if_pos hl]; simp [hl2], by rw [eo], ?_, ?_⟩⟩
          · rw [eo, ← e3]; exact hl2
          · rw [eo]; exact (hok.2.2 s' rfl).symm
        · refine .inl ⟨by unfold uwH; rw [if_pos hl]; simp [hl2], by unfold uwO; rw [if_pos hl]; simp [hl2], .inr ⟨s', rfl, ?_⟩⟩
          rw [← e3]; exact hl2
    · exact .inl ⟨by unfold uwH; rw [if_neg hl], by unfold uwO; rw [if_neg hl], .inl hl⟩
  · exact .inl ⟨rfl, rfl, hn⟩

/-- Two terms are the same by bindings that begin with others. -/
structure Dn (s : List B) (a b : List C) (o : List B) : Prop where
  oks : subOk s = true
  ta : trm a = true
  tb : trm b = true
  oko : subOk o = true
  pre : ∃ r, o = s ++ r
  la : (app (ev s) a).length ≤ 40
  lb : (app (ev s) b).length ≤ 40
  lz : (app (ev o) a).length ≤ 40
  same : app (ev o) a = app (ev o) b
  sol : Sol (ev o) s
  un : ∃ n, Uni n s [(a, b)] (some o) o

theorem prs_one {a b : List C} (ha : trm a = true) (hb : trm b = true) : Prs [(a, b)] := fun p hp => by simp at hp; subst hp; exact ⟨trm_Trm ha, trm_Trm hb⟩

theorem um_done {s : List B} {a b : List C} {o : List B} (hM : UM s a b o 1) : Dn s a b o := by
  rcases um_ev hM with ⟨e, _⟩ | ⟨⟨h1, h2, h3⟩, n, res, sf, hU, ⟨e, _⟩ | ⟨l1, l2, ⟨e, _⟩ | ⟨_, rfl, l3, rfl⟩⟩⟩
  · omega
  · omega
  · omega
  · have hs := subOk_okB h1
    have hg := subOk_good h1
    have hp := prs_one h2 h3
    have hok := hU.ok hs hp
    have hR := Room.begin hU hs hg.range hg.short (trm_Trm h2) (trm_Trm h3) (trm_len h2).2 (trm_len h3).2
    have hR' := hU.room hR _ rfl
    have hso := sol_ev hok.1
    exact ⟨h1, h2, h3, good_subOk hR'.good, hok.2.1, l1, l2, l3, uni_sound hU hs hp _ rfl hso (a, b) (by simp), hso.pre hs hok.2.1, n, hU⟩

theorem Dn.full {s : List B} {a b : List C} {o : List B} (h : Dn s a b o) : fullB o a = some (app (ev o) a) ∧ fullB o b = some (app (ev o) a) :=
  ⟨by rw [fullB_ev h.oko h.ta, if_pos h.lz], by rw [fullB_ev h.oko h.tb, ← h.same, if_pos h.lz]⟩

/-- What is made the same by some substitution that respects the bindings is not apart, and what comes of it is respected. -/
theorem um_not_apart {τ : Int → List C} (hT : Tr τ) {s : List B} {a b : List C} {o : List B} {h : Int} (hM : UM s a b o h) (hτ : Sol τ s) (he : app τ a = app τ b) : h ≠ 2 ∧ (h = 1 → Sol τ o) := by
  rcases um_ev hM with ⟨e, _⟩ | ⟨⟨h1, h2, h3⟩, n, res, sf, hU, hc⟩
  · exact ⟨by omega, fun e2 => by omega⟩
  · obtain ⟨⟨s', e1⟩, h4⟩ := uni_most hT hU (subOk_okB h1) (prs_one h2 h3) hτ (fun p hp => by simp at hp; subst hp; exact he)
    rcases hc with ⟨e, _⟩ | ⟨l1, l2, ⟨e, _, e2⟩ | ⟨e, e2, _, e3⟩⟩
    · exact ⟨by omega, fun e2 => by omega⟩
    · rw [e2] at e1; cases e1
    · exact ⟨by omega, fun _ => by rw [← e3]; exact h4⟩

/-- Nothing more is bound where both are the same already. -/
theorem um_idle {s : List B} {a b : List C} (h1 : subOk s = true) (h2 : trm a = true) (h3 : trm b = true) (he : app (ev s) a = app (ev s) b) {o : List B} {h : Int} (hM : UM s a b o h) : (h = 1 ∧ o = s ∧ (app (ev s) a).length ≤ 40) ∨ (h = 3 ∧ ¬ (app (ev s) a).length ≤ 40) := by
  rcases um_ev hM with ⟨_, _, hn⟩ | ⟨_, n, res, sf, hU, hc⟩
  · exact absurd ⟨h1, h2, h3⟩ hn
  · obtain ⟨e1, e2⟩ := uni_idle hU (subOk_okB h1) (prs_one h2 h3) (fun p hp => by simp at hp; subst hp; exact he)
    rcases hc with ⟨e, _, hb⟩ | ⟨l1, l2, ⟨e, _, e3⟩ | ⟨e, e3, _, e4⟩⟩
    · refine .inr ⟨e, fun hl => ?_⟩
      rcases hb with hb | ⟨s', e5, hb⟩
      · exact hb ⟨hl, by rw [← he]; exact hl⟩
      · rw [e1] at e5; cases e5; exact hb hl
    · rw [e1] at e3; cases e3
    · exact .inl ⟨e, by rw [← e4, e2], l1⟩

theorem um_again {s : List B} {a b : List C} {x : List B} (hM : UM s a b x 1) {y : List B} {h : Int} (hN : UM x b a y h) : h = 1 ∧ y = x := by
  have d := um_done hM
  rcases um_idle d.oko d.tb d.ta d.same.symm hN with ⟨e1, e2, _⟩ | ⟨_, hl⟩
  · exact ⟨e1, e2⟩
  · exact absurd (by rw [← d.same]; exact d.lz) hl

theorem um_apart {s : List B} {a b : List C} {o m : List B} {h : Int} (h1 : UM [] a b m 2) (h2 : UM s a b o h) : h ≠ 1 := fun e => by
  subst e
  have d := um_done h2
  exact (um_not_apart (ev_tr (subOk_okB d.oko)) h1 (sol_nil _) d.same).1 rfl

theorem app_ev_nil {t : List C} (ht : trm t = true) : app (ev []) t = t :=
  (exp_app (Exp.self (s := []) (a := t) (fun c _ _ => rfl)) (trm_Trm ht).2).symm
theorem subOk_none : subOk [] = true := subOk_yes (fun k h => by simp at h)

/-- What respects bindings takes no notice of whether they are laid in. -/
theorem Sol.ev {τ : Int → List C} {s : List B} (hτ : Sol τ s) (hs : OkB s) {t : List C} (ho : ∀ c ∈ t, okC c = true) : app τ (app (ev s) t) = app τ t := by
  obtain ⟨n, hE⟩ := exp_ev hs ho
  exact hτ.exp hE
theorem Sol.ev_len {τ : Int → List C} (hT : Tr τ) {s : List B} (hτ : Sol τ s) (hs : OkB s) {t : List C} (ho : ∀ c ∈ t, okC c = true) : (app (Go.Proofs.Ytddhjafpacgdaaa.ev s) t).length ≤ (app τ t).length := by
  rw [← hτ.ev hs ho]
  exact app_len hT _

/-- What can be made the same within bounds is. -/
theorem um_can {τ : Int → List C} (hT : Tr τ) {s : List B} {a b : List C} {o : List B} {h : Int} (hM : UM s a b o h) (h1 : subOk s = true) (h2 : trm a = true) (h3 : trm b = true) (hτ : Sol τ s) (he : app τ a = app τ b) (hl : (app τ a).length ≤ 40) : h = 1 ∧ Sol τ o := by
  have hs := subOk_okB h1
  rcases um_ev hM with ⟨_, _, hn⟩ | ⟨_, n, res, sf, hU, hc⟩
  · exact absurd ⟨h1, h2, h3⟩ hn
  · obtain ⟨⟨s', e1⟩, h4⟩ := uni_most hT hU hs (prs_one h2 h3) hτ (fun p hp => by simp at hp; subst hp; exact he)
    have hok := hU.ok hs (prs_one h2 h3)
    have e5 := hok.2.2 s' e1
    rcases hc with ⟨e, _, hb⟩ | ⟨l1, l2, ⟨e, _, e3⟩ | ⟨e, e3, _, e4⟩⟩
    · rcases hb with hb | ⟨s'', e6, hb⟩
      · exact absurd ⟨Nat.le_trans (Sol.ev_len hT hτ hs (trm_Trm h2).2) hl, Nat.le_trans (Sol.ev_len hT hτ hs (trm_Trm h3).2) (by rw [← he]; exact hl)⟩ hb
      · rw [e1] at e6
        cases e6
        exact absurd (Nat.le_trans (Sol.ev_len hT (by rw [e5]; exact h4) (by rw [e5]; exact hok.1) (trm_Trm h2).2) hl) hb
    · rw [e1] at e3; cases e3
    · exact ⟨e, by rw [← e4]; exact h4⟩

theorem um_most {s : List B} {a b : List C} {u m : List B} {h : Int} (h1 : UM s a b u 1) (h2 : UM [] a b m h) : h = 1 ∧ ∃ x y, fullB m a = some x ∧ fullB u x = some y ∧ fullB u a = some y := by
  have d := um_done h1
  have hT := ev_tr (subOk_okB d.oko)
  obtain ⟨e, hS⟩ := um_can hT h2 subOk_none d.ta d.tb (sol_nil _) d.same d.lz
  subst e
  have d2 := um_done h2
  refine ⟨rfl, _, _, d2.full.1, ?_, d.full.1⟩
  have e := hS.ev (subOk_okB d2.oko) (trm_Trm d.ta).2
  rw [fullB_ev d.oko (app_trm d2.oko d2.ta d2.lz), e, if_pos d.lz]

/-- A term without variables. -/
theorem app_ground (σ : Int → List C) : ∀ {t : List C}, (∀ c ∈ t, c.k ≠ 1) → app σ t = t
  | [], _ => rfl
  | c :: t, h => by rw [app_cons (h c (by simp)), app_ground σ (fun d hd => h d (by simp [hd]))]

theorem um_ground {a b : List C} {o : List B} {h : Int} (hM : UM [] a b o h) (ha : trm a = true) (hb : trm b = true) (hg : ∀ c ∈ b, c.k ≠ 1) :
    ((∀ c ∈ a, c.k ≠ 1) → (h = 1 ↔ a = b) ∧ o = []) ∧ (h = 1 → fullB o a = some b) ∧ (h ≠ 1 → h = 2 ∨ h = 3) := by
  refine ⟨fun hga => ⟨⟨fun e => ?_, fun e => ?_⟩, ?_⟩, fun e => ?_, fun hn => ?_⟩
  · subst e
    have := (um_done hM).same
    rwa [app_ground _ hga, app_ground _ hg] at this
  · subst e
    exact (um_can (ev_tr (subOk_okB subOk_none)) hM subOk_none ha ha (sol_nil _) rfl (by rw [app_ground _ hga]; exact (trm_len ha).2)).1
  · by_cases e : a = b
    · subst e
      rcases um_idle subOk_none ha ha rfl hM with ⟨_, h2, _⟩ | ⟨h2, h3⟩
      · exact h2
      · rw [app_ground _ hga] at h3; exact absurd (trm_len ha).2 h3
    · rcases um_ev hM with ⟨_, h2, _⟩ | ⟨_, n, res, sf, hU, ⟨_, h2, _⟩ | ⟨_, _, ⟨_, h2, _⟩ | ⟨h2, _⟩⟩⟩
      · exact h2
      · exact h2
      · exact h2
      · subst h2
        have := (um_done hM).same
        rw [app_ground _ hga, app_ground _ hg] at this
        exact absurd this e
  · subst e
    have d := um_done hM
    rw [d.full.1, d.same, app_ground _ hg]
  · rcases um_ev hM with ⟨_, _, hc⟩ | ⟨_, n, res, sf, hU, ⟨h2, _⟩ | ⟨_, _, ⟨h2, _⟩ | ⟨h2, _⟩⟩⟩
    · exact absurd ⟨subOk_none, ha, hb⟩ hc
    · exact .inr h2
    · exact .inl h2
    · exact absurd h2 hn

/-- Which codes there are. -/
theorem um_codes {s : List B} {a b : List C} {o : List B} {h : Int} (hM : UM s a b o h) : (h = 1 ∨ o = []) ∧ ((h = 4 ∧ ¬ (subOk s = true ∧ trm a = true ∧ trm b = true)) ∨ ((subOk s = true ∧ trm a = true ∧ trm b = true) ∧ (h = 1 ∨ h = 2 ∨ h = 3))) := by
  rcases um_ev hM with ⟨e, e2, hc⟩ | ⟨hc, n, res, sf, hU, ⟨e, e2, _⟩ | ⟨_, _, ⟨e, e2, _⟩ | ⟨e, _⟩⟩⟩
  · exact ⟨.inr e2, .inl ⟨e, hc⟩⟩
  · exact ⟨.inr e2, .inr ⟨hc, .inr (.inr e)⟩⟩
  · exact ⟨.inr e2, .inr ⟨hc, .inr (.inl e)⟩⟩
  · exact ⟨.inl e, .inr ⟨hc, .inl e⟩⟩
end Go.Proofs.Ytddhjafpacgdaaa
