/- The plain mathematics of what bindings make of terms: substitutions, what respects bindings, and that to make two terms the same binds no more than must be. -/
import Derived.Test.YtddhjafpacgdaaaQPB4
namespace Go.Proofs.Ytddhjafpacgdaaa
set_option linter.unusedVariables false
set_option linter.unusedSimpArgs false

/-- Places with each variable replaced. -/
def app (σ : Int → List C) : List C → List C
  | [] => []
  | c :: t => (if c.k = 1 then σ c.n else [c]) ++ app σ t

theorem app_append (σ : Int → List C) : ∀ (a b : List C), app σ (a ++ b) = app σ a ++ app σ b
  | [], b => rfl
  | c :: a, b => by rw [List.cons_append, app, app, app_append σ a b, List.append_assoc]
theorem app_flat (σ : Int → List C) : ∀ (ks : List (List C)), app σ ks.flatten = (ks.map (app σ)).flatten
  | [] => rfl
  | k :: ks => by rw [List.flatten_cons, app_append, app_flat σ ks]; rfl
theorem app_var {σ : Int → List C} {c : C} (h : c.k = 1) : app σ [c] = σ c.n := by rw [app, if_pos h]; simp [app]
theorem app_cons {σ : Int → List C} {c : C} {t : List C} (h : c.k ≠ 1) : app σ (c :: t) = c :: app σ t := by rw [app, if_neg h]; rfl

/-- Each variable is replaced by a tree. -/
def Tr (σ : Int → List C) : Prop := ∀ v, ∃ f, Tm f (σ v)
theorem Tr.ne {σ : Int → List C} (h : Tr σ) (v : Int) : 1 ≤ (σ v).length := by
  obtain ⟨f, hf⟩ := h v
  exact hf.pos
theorem app_len {σ : Int → List C} (h : Tr σ) : ∀ t : List C, t.length ≤ (app σ t).length
  | [] => by simp [app]
  | c :: t => by
      have ih := app_len h t
      have h1 := h.ne c.n
      rw [app, List.length_append, List.length_cons]
      split <;> simp_all <;> omega

theorem app_tm {σ : Int → List C} (h : Tr σ) : ∀ (f : Nat) (t : List C), Tm f t → ∃ g, Tm g (app σ t)
  | f + 1, t, ⟨c, ks, e, hl, hk⟩ => by
      subst e
      by_cases h1 : c.k = 1
      · have : ks = [] := by simpa [ari, h1] using hl
        subst this
        obtain ⟨g, hg⟩ := h c.n
        refine ⟨g, ?_⟩
        rw [List.flatten_nil, app_var h1]; exact hg
      · have up : ∀ (l : List (List C)), (∀ k ∈ l, Tm f k) → ∃ g, ∀ k ∈ l, Tm g (app σ k) := by
          intro l
          induction l with
          | nil => exact fun _ => ⟨0, fun k h => by simp at h⟩
          | cons x l ih =>
            intro hl
            obtain ⟨g1, hg1⟩ := ih (fun k hk => hl k (by simp [hk]))
            obtain ⟨g2, hg2⟩ := app_tm h f x (hl x (by simp))
            refine ⟨max g1 g2, fun k hk => ?_⟩
            rcases List.mem_cons.1 hk with rfl | hk
            · exact hg2.mono (Nat.le_max_right _ _)
            · exact (hg1 k hk).mono (Nat.le_max_left _ _)
        obtain ⟨g, hg⟩ := up ks hk
        refine ⟨g + 1, c, ks.map (app σ), by rw [app_cons h1, app_flat], by rw [List.length_map]; exact hl, fun k hk => ?_⟩
        obtain ⟨k', hk', rfl⟩ := List.mem_map.1 hk
        exact hg k' hk'

theorem tms_one {ks ks' : List (List C)} (h : ∀ k ∈ ks, ∃ f, Tm f k) (h' : ∀ k ∈ ks', ∃ f, Tm f k) (e : ks.flatten = ks'.flatten) : ks = ks' := by
  have up : ∀ (l : List (List C)), (∀ k ∈ l, ∃ f, Tm f k) → ∃ f, ∀ k ∈ l, Tm f k := by
    intro l
    induction l with
    | nil => exact fun _ => ⟨0, fun k h => by simp at h⟩
    | cons x l ih =>
      intro hl
      obtain ⟨f, hf⟩ := ih (fun k hk => hl k (by simp [hk]))
      obtain ⟨g, hg⟩ := hl x (by simp)
      refine ⟨max f g, fun k hk => ?_⟩
      rcases List.mem_cons.1 hk with rfl | hk
      · exact hg.mono (Nat.le_max_right _ _)
      · exact (hf k hk).mono (Nat.le_max_left _ _)
  obtain ⟨f, hf⟩ := up ks h
  obtain ⟨g, hg⟩ := up ks' h'
  exact trees_one (f := max f g) ks ks' (fun k hk => (hf k hk).mono (Nat.le_max_left _ _)) (fun k hk => (hg k hk).mono (Nat.le_max_right _ _)) e

/-- A variable as a place. -/
def vV (v : Int) : C := ⟨1, v, ByteArray.mk #[]⟩
theorem okC_vV {c : C} (h : okC c = true) (hk : c.k = 1) : c = vV c.n := by
  unfold okC at h
  rw [if_pos hk] at h
  simp at h
  obtain ⟨k, n, s⟩ := c
  simp only [vV] at *
  subst hk
  have : s = ByteArray.mk #[] := h.2
  rw [this]

/-- What a variable is with all that is bound laid in. -/
noncomputable def ev (s : List B) (v : Int) : List C := by
  classical
  exact if h : ∃ z n, Exp s n [vV v] z then Classical.choose h else [vV v]
theorem ev_of {s : List B} {v : Int} {n : Nat} {z : List C} (h : Exp s n [vV v] z) : ev s v = z := by
  have hx : ∃ z n, Exp s n [vV v] z := ⟨z, n, h⟩
  unfold ev
  rw [dif_pos hx]
  obtain ⟨m, hm⟩ := Classical.choose_spec hx
  exact (hm.det h).1
theorem ev_free {s : List B} {v : Int} (h : getB s v = []) : ev s v = [vV v] := ev_of (Exp.self (a := [vV v]) (fun c hc _ => by simp at hc; subst hc; exact h))

theorem exp_app {s : List B} {n : Nat} {t z : List C} (h : Exp s n t z) : (∀ c ∈ t, okC c = true) → z = app (ev s) t := by
  induction h with
  | nil => intro _; rfl
  | @keep n c r r' hc hr ih =>
    intro ho
    have e := ih (fun d hd => ho d (by simp [hd]))
    by_cases hk : c.k = 1
    · rw [app, if_pos hk, ev_free (hc hk), ← okC_vV (ho c (by simp)) hk, ← e]; rfl
    · rw [app_cons hk, ← e]
  | @sub m n c r r' b h1 h2 h3 hr _ ih =>
    intro ho
    have e := ih (fun d hd => ho d (by simp [hd]))
    have e2 : ev s c.n = b := by
      have := Exp.sub (s := s) (c := vV c.n) (r := []) rfl h2 h3 .nil
      simp only [List.append_nil] at this
      exact ev_of this
    rw [app, if_pos h1, e2, ← e]

theorem exp_ok {s : List B} (hs : OkB s) {n : Nat} {t z : List C} (h : Exp s n t z) : (∀ c ∈ t, okC c = true) → ∀ c ∈ z, okC c = true := by
  induction h with
  | nil => exact fun h => h
  | keep hc hr ih =>
    intro ho c hc'
    rcases List.mem_cons.1 hc' with rfl | hc'
    · exact ho _ (by simp)
    · exact ih (fun d hd => ho d (by simp [hd])) c hc'
  | sub h1 h2 h3 hr ih1 ih2 =>
    intro ho c hc'
    rcases List.mem_append.1 hc' with hc' | hc'
    · exact ih1 (hs.get h2).2 c hc'
    · exact ih2 (fun d hd => ho d (by simp [hd])) c hc'

theorem exp_tm {s : List B} (hs : OkB s) {n : Nat} {t z : List C} (h : Exp s n t z) : ∀ (ks : List (List C)), t = ks.flatten → (∀ k ∈ ks, ∃ f, Tm f k) → ∃ ks' : List (List C), z = ks'.flatten ∧ ks'.length = ks.length ∧ ∀ k ∈ ks', ∃ f, Tm f k := by
  induction h with
  | nil =>
    intro ks e hk
    cases ks with
    | nil => exact ⟨[], rfl, rfl, hk⟩
    | cons k ks =>
      obtain ⟨f, hf⟩ := hk k (by simp)
      have h1 := hf.pos
      have h2 := congrArg List.length e
      simp at h2
      omega
  | @keep n c r r' hc hr ih =>
    intro ks e hk
    cases ks with
    | nil => simp at e
    | cons k ks =>
      obtain ⟨f, hf⟩ := hk k (by simp)
      match f, hf with
      | f + 1, ⟨c', js, e1, hl, hj⟩ =>
        subst e1
        rw [List.flatten_cons, List.cons_append, List.cons.injEq] at e
        obtain ⟨rfl, e⟩ := e
        obtain ⟨ks', e2, hl2, hk2⟩ := ih (js ++ ks) (by rw [e, List.flatten_append]) (fun q hq => by
          rcases List.mem_append.1 hq with hq | hq
          · exact ⟨f, hj q hq⟩
          · exact hk q (by simp [hq]))
        rw [List.length_append] at hl2
        have up : ∃ g, ∀ q ∈ ks'.take js.length, Tm g q := by
          have : ∀ (l : List (List C)), (∀ k ∈ l, ∃ f, Tm f k) → ∃ f, ∀ k ∈ l, Tm f k := by
            intro l
            induction l with
            | nil => exact fun _ => ⟨0, fun k h => by simp at h⟩
            | cons x l ih =>
              intro hl
              obtain ⟨f, hf⟩ := ih (fun k hk => hl k (by simp [hk]))
              obtain ⟨g, hg⟩ := hl x (by simp)
              refine ⟨max f g, fun k hk => ?_⟩
              rcases List.mem_cons.1 hk with rfl | hk
              · exact hg.mono (Nat.le_max_right _ _)
              · exact (hf k hk).mono (Nat.le_max_left _ _)
          exact this _ (fun q hq => hk2 q (List.mem_of_mem_take hq))
        obtain ⟨g, hg⟩ := up
        refine ⟨(c :: (ks'.take js.length).flatten) :: ks'.drop js.length, ?_, by rw [List.length_cons, List.length_drop, List.length_cons]; omega, fun q hq => ?_⟩
        · rw [List.flatten_cons, List.cons_append, ← List.flatten_append, List.take_append_drop, e2]
        · rcases List.mem_cons.1 hq with rfl | hq
          · exact ⟨g + 1, c, _, rfl, by rw [List.length_take, ← hl]; omega, hg⟩
          · exact hk2 q (List.mem_of_mem_drop hq)
  | @sub m n c r r' b h1 h2 h3 hr ih1 ih2 =>
    intro ks e hk
    cases ks with
    | nil => simp at e
    | cons k ks =>
      obtain ⟨f, hf⟩ := hk k (by simp)
      match f, hf with
      | f + 1, ⟨c', js, e1, hl, hj⟩ =>
        subst e1
        rw [List.flatten_cons, List.cons_append, List.cons.injEq] at e
        obtain ⟨rfl, e⟩ := e
        have hj0 : js = [] := by simpa [ari, h1] using hl
        subst hj0
        obtain ⟨ks1, e3, hl3, hk3⟩ := ih1 [getB s c.n] (by simp) (fun q hq => by simp at hq; subst hq; exact (hs.get h2).1)
        obtain ⟨ks', e2, hl2, hk2⟩ := ih2 ks (by simpa using e) (fun q hq => hk q (by simp [hq]))
        match ks1, hl3 with
        | [b'], _ =>
          simp at e3
          subst e3
          refine ⟨b :: ks', by rw [List.flatten_cons, e2], by simp [hl2], fun q hq => ?_⟩
          rcases List.mem_cons.1 hq with rfl | hq
          · exact hk3 _ (by simp)
          · exact hk2 q hq

theorem Exp.trm {s : List B} (hs : OkB s) {n : Nat} {t z : List C} (h : Exp s n t z) (ht : Trm t) : Trm z := by
  obtain ⟨ks, e, hl, hk⟩ := exp_tm hs h [t] (by simp) (fun k hk => by simp at hk; subst hk; exact ht.1)
  match ks, hl with
  | [k], _ =>
    simp at e
    subst e
    exact ⟨hk z (by simp), exp_ok hs h ht.2⟩

theorem ev_tr {s : List B} (hs : OkB s) : Tr (ev s) := fun v => by
  by_cases h : getB s v = []
  · rw [ev_free h]; exact ⟨1, vV v, [], by simp, by simp [ari, vV], by simp⟩
  · obtain ⟨ρ, hρ⟩ := hs.rank
    obtain ⟨n, z, hE⟩ := exp_all hρ (getB s v)
    have := Exp.sub (s := s) (c := vV v) (r := []) rfl h hE .nil
    simp only [List.append_nil] at this
    rw [ev_of this]
    exact (hE.trm hs (hs.get h)).1

/-- A substitution respects bindings: a bound variable is as what it is bound to. -/
def Sol (σ : Int → List C) (s : List B) : Prop := ∀ v, getB s v ≠ [] → σ v = app σ (getB s v)
theorem sol_ev {s : List B} (hs : OkB s) : Sol (ev s) s := fun v hv => by
  obtain ⟨ρ, hρ⟩ := hs.rank
  obtain ⟨n, z, hE⟩ := exp_all hρ (getB s v)
  have := Exp.sub (s := s) (c := vV v) (r := []) rfl hv hE .nil
  simp only [List.append_nil] at this
  rw [ev_of this]
  exact exp_app hE (hs.get hv).2
theorem sol_nil (σ : Int → List C) : Sol σ [] := fun v h => absurd rfl h
theorem Sol.pre {σ : Int → List C} {s s' : List B} (h : Sol σ s') (hs : OkB s) (hp : ∃ r, s' = s ++ r) : Sol σ s := fun v hv => by
  obtain ⟨r, rfl⟩ := hp
  have hm := hs.bound.1 hv
  have := h v (by rw [getB_append, if_pos hm]; exact hv)
  rwa [getB_append, if_pos hm] at this
theorem Sol.exp {σ : Int → List C} {s : List B} (hσ : Sol σ s) {n : Nat} {t z : List C} (h : Exp s n t z) : app σ z = app σ t := by
  induction h with
  | nil => rfl
  | keep hc hr ih => rw [app, app, ih]
  | sub h1 h2 h3 hr ih1 ih2 => rw [app_append, ih1, ih2, app, if_pos h1, hσ _ h2]
theorem Sol.now {σ : Int → List C} {s : List B} (hσ : Sol σ s) (hs : OkB s) {n : Nat} {t x : List C} (h : Now s n t x) : Trm t → app σ t = app σ x := by
  induction h with
  | stop _ => intro _; rfl
  | on h1 h2 h3 ih =>
    intro ht
    have := ht.var h1
    subst this
    rw [app_var h1, hσ _ h2]
    exact ih (hs.get h2)
theorem Sol.bind {σ : Int → List C} {s : List B} (hσ : Sol σ s) (hs : OkB s) {v : Int} {y : List C} (hv : getB s v = []) (e : σ v = app σ y) : Sol σ (s ++ [⟨v, y⟩]) := fun u hu => by
  rw [getB_bind hs hv] at hu ⊢
  split
  · rename_i h; rw [h]; exact e
  · rename_i h; rw [if_neg h] at hu; exact hσ u hu

theorem zip_all {σ : Int → List C} : ∀ {xs ys : List (List C)}, xs.length = ys.length → (∀ p ∈ xs.zip ys, app σ p.1 = app σ p.2) → app σ xs.flatten = app σ ys.flatten
  | [], [], _, _ => rfl
  | x :: xs, y :: ys, hl, h => by
      rw [List.flatten_cons, List.flatten_cons, app_append, app_append, h (x, y) (by simp), zip_all (by simpa using hl) (fun p hp => h p (by simp [hp]))]

theorem zip_map {σ : Int → List C} : ∀ {xs ys : List (List C)}, xs.map (app σ) = ys.map (app σ) → ∀ p ∈ xs.zip ys, app σ p.1 = app σ p.2
  | [], _, _, p, hp => by simp at hp
  | _ :: _, [], _, p, hp => by simp at hp
  | x :: xs, y :: ys, e, p, hp => by
      simp only [List.map_cons, List.cons.injEq] at e
      rw [List.zip_cons_cons] at hp
      rcases List.mem_cons.1 hp with rfl | hp
      · exact e.1
      · exact zip_map e.2 p hp

theorem prs_args {xs ys : List (List C)} {p : List C × List C} {r : List (List C × List C)} (hxs : ∀ k ∈ xs, Trm k) (hys : ∀ k ∈ ys, Trm k) (h : Prs (p :: r)) : Prs (xs.zip ys ++ r) := fun q hq => by
  rcases List.mem_append.1 hq with hq | hq
  · exact ⟨hxs _ (zip_mem hq).1, hys _ (zip_mem hq).2⟩
  · exact h q (by simp [hq])

/-- What comes of it makes all pairs the same. -/
theorem uni_sound {τ : Int → List C} {n : Nat} {s sf : List B} {ps : List (List C × List C)} {res : Option (List B)} (h : Uni n s ps res sf) : OkB s → Prs ps → ∀ s', res = some s' → Sol τ s' → ∀ p ∈ ps, app τ p.1 = app τ p.2 := by
  induction h with
  | done => intro _ _ _ _ _ p hp; simp at hp
  | @args n n1 n2 s sf a b r c xs ys res hx hy hxs hys hxl hyl hU ih =>
    intro hs hp s' e hτ p hpm
    have hp' := prs_args hxs hys hp
    have hok := hU.ok hs hp'
    have hτs : Sol τ s := hτ.pre hs (by rw [hok.2.2 s' e]; exact hok.2.1)
    have ih' := ih hs hp' s' e hτ
    have hab := hp (a, b) (by simp)
    rcases List.mem_cons.1 hpm with rfl | hpm
    · show app τ a = app τ b
      rw [hτs.now hs hx hab.1, hτs.now hs hy hab.2, app, app, zip_all (by omega) (fun q hq => ih' q (List.mem_append.2 (.inl hq)))]
    · exact ih' p (List.mem_append.2 (.inr hpm))
  | @bindL n n1 n2 s sf a b y r c res hx hy hc hne hr hU ih =>
    intro hs hp s' e hτ p hpm
    have hab := hp (a, b) (by simp)
    have hyt := hy.trm hs hab.2
    obtain ⟨c', r', e1, hcb⟩ := hx.head
    simp only [List.cons.injEq] at e1
    obtain ⟨rfl, rfl⟩ := e1
    have hs' := hs.bind (hcb hc) hyt hr
    have hpr : Prs r := fun q hq => hp q (by simp [hq])
    have hok := hU.ok hs' hpr
    have hτb : Sol τ (s ++ [⟨c.n, y⟩]) := hτ.pre hs' (by rw [hok.2.2 s' e]; exact hok.2.1)
    have hτs : Sol τ s := hτb.pre hs ⟨_, rfl⟩
    rcases List.mem_cons.1 hpm with rfl | hpm
    · show app τ a = app τ b
      rw [hτs.now hs hx hab.1, hτs.now hs hy hab.2, app_var hc]
      have := hτb c.n (by rw [getB_bind hs (hcb hc), if_pos rfl]; exact hyt.ne)
      rwa [getB_bind hs (hcb hc), if_pos rfl] at this
    · exact ih hs' hpr s' e hτ p hpm
  | ringL => intro _ _ s' e; cases e
  | @bindR n n1 n2 s sf a b x r c d res hx hy hc hd hr hU ih =>
    intro hs hp s' e hτ p hpm
    have hab := hp (a, b) (by simp)
    have hxt := hx.trm hs hab.1
    obtain ⟨c', r', e1, hcb⟩ := hy.head
    simp only [List.cons.injEq] at e1
    obtain ⟨rfl, rfl⟩ := e1
    have hs' := hs.bind (hcb hc) hxt hr
    have hpr : Prs r := fun q hq => hp q (by simp [hq])
    have hok := hU.ok hs' hpr
    have hτb : Sol τ (s ++ [⟨c.n, d :: x⟩]) := hτ.pre hs' (by rw [hok.2.2 s' e]; exact hok.2.1)
    have hτs : Sol τ s := hτb.pre hs ⟨_, rfl⟩
    rcases List.mem_cons.1 hpm with rfl | hpm
    · show app τ a = app τ b
      rw [hτs.now hs hx hab.1, hτs.now hs hy hab.2, app_var hc]
      have := hτb c.n (by rw [getB_bind hs (hcb hc), if_pos rfl]; exact hxt.ne)
      rw [getB_bind hs (hcb hc), if_pos rfl] at this
      exact this.symm
    · exact ih hs' hpr s' e hτ p hpm
  | ringR => intro _ _ s' e; cases e
  | apart => intro _ _ s' e; cases e

theorem varIn_len {τ : Int → List C} : ∀ {t : List C} {v : Int}, varIn t v → (τ v).length ≤ (app τ t).length
  | [], v, h => absurd h (varIn_nil v)
  | c :: t, v, h => by
      rw [app, List.length_append]
      rcases varIn_cons.1 h with ⟨h1, rfl⟩ | h
      · rw [if_pos h1]; omega
      · have := varIn_len (τ := τ) h; omega
theorem reach_len {τ : Int → List C} {s : List B} (hτ : Sol τ s) {y : List C} {v : Int} (h : Reach s y v) : (τ v).length ≤ (app τ y).length := by
  induction h with
  | here h => exact varIn_len h
  | step _ h2 ih =>
    have := varIn_len (τ := τ) h2
    rw [← hτ _ (ne_of_varIn h2)] at this
    omega
theorem reach_fun {s : List B} {d : C} {x : List C} (hd : d.k ≠ 1) {v : Int} (h : Reach s (d :: x) v) : Reach s x v :=
  Reach.mono (fun u hu => by
    rcases varIn_cons.1 hu with ⟨h1, _⟩ | hu
    · exact absurd h1 hd
    · exact .here hu) h
theorem reach_free {s : List B} {d : C} (hd : getB s d.n = []) {v : Int} (h : Reach s [d] v) : v = d.n := by
  induction h with
  | here h =>
    rcases varIn_cons.1 h with ⟨_, h⟩ | h
    · exact h.symm
    · exact absurd h (varIn_nil _)
  | step _ h2 ih => subst ih; rw [hd] at h2; exact absurd h2 (varIn_nil _)

/-- No substitution makes a variable the same as a name around it. -/
theorem no_around {τ : Int → List C} {s : List B} (hτ : Sol τ s) {d : C} {x : List C} (hd : d.k ≠ 1) {v : Int} (h : Reach s (d :: x) v) : τ v ≠ app τ (d :: x) := fun e => by
  have h1 := reach_len hτ (reach_fun hd h)
  rw [app_cons hd] at e
  rw [e, List.length_cons] at h1
  omega
theorem no_ring {τ : Int → List C} {s : List B} (hτ : Sol τ s) {n : Nat} {c : C} {b y : List C} (hs : OkB s) (hy : Now s n b y) (hyt : Trm y) (hc : c.k = 1) (hco : okC c = true) (hne : y.head? ≠ some c) (h : Reach s y c.n) : τ c.n ≠ app τ y := by
  obtain ⟨d, r, rfl, hdb⟩ := hy.head
  by_cases hd : d.k = 1
  · have := hyt.var hd
    subst this
    have e := reach_free (hdb hd) h
    refine absurd ?_ hne
    rw [List.head?_cons, okC_vV (hyt.2 d (by simp)) hd, okC_vV hco hc, e]
  · exact no_around hτ hd h

/-- What can be made the same is, and no more is bound than must be. -/
theorem uni_most {τ : Int → List C} (hT : Tr τ) {n : Nat} {s sf : List B} {ps : List (List C × List C)} {res : Option (List B)} (h : Uni n s ps res sf) : OkB s → Prs ps → Sol τ s → (∀ p ∈ ps, app τ p.1 = app τ p.2) → (∃ s', res = some s') ∧ Sol τ sf := by
  induction h with
  | done => intro _ _ hτ _; exact ⟨⟨_, rfl⟩, hτ⟩
  | @args n n1 n2 s sf a b r c xs ys res hx hy hxs hys hxl hyl hU ih =>
    intro hs hp hτ he
    have hab := hp (a, b) (by simp)
    have e := he (a, b) (by simp)
    simp only at e
    rw [hτ.now hs hx hab.1, hτ.now hs hy hab.2, app, app] at e
    have e2 := List.append_cancel_left e
    rw [app_flat, app_flat] at e2
    have tm : ∀ (l : List (List C)), (∀ k ∈ l, Trm k) → ∀ k ∈ l.map (app τ), ∃ f, Tm f k := fun l hl k hk => by
      obtain ⟨k', hk', rfl⟩ := List.mem_map.1 hk
      obtain ⟨f, hf⟩ := (hl k' hk').1
      exact app_tm hT f k' hf
    have e3 := tms_one (tm xs hxs) (tm ys hys) e2
    refine ih hs (prs_args hxs hys hp) hτ (fun q hq => ?_)
    rcases List.mem_append.1 hq with hq | hq
    · exact zip_map e3 q hq
    · exact he q (by simp [hq])
  | @bindL n n1 n2 s sf a b y r c res hx hy hc hne hr hU ih =>
    intro hs hp hτ he
    have hab := hp (a, b) (by simp)
    have e := he (a, b) (by simp)
    simp only at e
    rw [hτ.now hs hx hab.1, hτ.now hs hy hab.2, app_var hc] at e
    have hyt := hy.trm hs hab.2
    obtain ⟨c', r', e1, hcb⟩ := hx.head
    simp only [List.cons.injEq] at e1
    obtain ⟨rfl, rfl⟩ := e1
    exact ih (hs.bind (hcb hc) hyt hr) (fun q hq => hp q (by simp [hq])) (hτ.bind hs (hcb hc) e) (fun q hq => he q (by simp [hq]))
  | @ringL n1 n2 s a b y r c hx hy hc hne hr =>
    intro hs hp hτ he
    have hab := hp (a, b) (by simp)
    have e := he (a, b) (by simp)
    simp only at e
    rw [hτ.now hs hx hab.1, hτ.now hs hy hab.2, app_var hc] at e
    exact absurd e (no_ring hτ hs hy (hy.trm hs hab.2) hc ((hx.trm hs hab.1).2 c (by simp)) hne hr)
  | @bindR n n1 n2 s sf a b x r c d res hx hy hc hd hr hU ih =>
    intro hs hp hτ he
    have hab := hp (a, b) (by simp)
    have e := he (a, b) (by simp)
    simp only at e
    rw [hτ.now hs hx hab.1, hτ.now hs hy hab.2, app_var hc] at e
    have hxt := hx.trm hs hab.1
    obtain ⟨c', r', e1, hcb⟩ := hy.head
    simp only [List.cons.injEq] at e1
    obtain ⟨rfl, rfl⟩ := e1
    exact ih (hs.bind (hcb hc) hxt hr) (fun q hq => hp q (by simp [hq])) (hτ.bind hs (hcb hc) e.symm) (fun q hq => he q (by simp [hq]))
  | @ringR n1 n2 s a b x r c d hx hy hc hd hr =>
    intro hs hp hτ he
    have hab := hp (a, b) (by simp)
    have e := he (a, b) (by simp)
    simp only at e
    rw [hτ.now hs hx hab.1, hτ.now hs hy hab.2, app_var hc] at e
    exact absurd e.symm (no_around hτ hd hr)
  | @apart n1 n2 s a b x y r c d hx hy hc hd hcd =>
    intro hs hp hτ he
    have hab := hp (a, b) (by simp)
    have e := he (a, b) (by simp)
    simp only at e
    rw [hτ.now hs hx hab.1, hτ.now hs hy hab.2, app_cons hc, app_cons hd] at e
    exact absurd (List.cons.inj e).1 hcd

/-- What is the same already binds nothing. -/
theorem uni_idle {n : Nat} {s sf : List B} {ps : List (List C × List C)} {res : Option (List B)} (h : Uni n s ps res sf) : OkB s → Prs ps → (∀ p ∈ ps, app (ev s) p.1 = app (ev s) p.2) → res = some s ∧ sf = s := by
  have free : ∀ {s : List B} {c : C} {y : List C}, getB s c.n = [] → okC c = true → c.k = 1 → Trm y → (∀ d r, y = d :: r → d.k = 1 → getB s d.n = []) → ev s c.n = app (ev s) y → y.head? = some c := fun {s c y} hcb hco hc hyt hdb e => by
    obtain ⟨d, ks, rfl, _⟩ := hyt.kids
    rw [ev_free hcb] at e
    by_cases hd : d.k = 1
    · have h0 := hyt.var hd
      rw [h0, app_var hd, ev_free (hdb d _ rfl hd)] at e
      simp only [List.cons.injEq, and_true] at e
      rw [List.head?_cons, okC_vV (hyt.2 d (by simp)) hd, okC_vV hco hc, ← e]
    · rw [app_cons hd] at e
      have := (List.cons.inj e).1
      exact absurd (by rw [← this]; rfl) hd
  induction h with
  | done => intro _ _ _; exact ⟨rfl, rfl⟩
  | @args n n1 n2 s sf a b r c xs ys res hx hy hxs hys hxl hyl hU ih =>
    intro hs hp he
    have hτ := sol_ev hs
    have hT := ev_tr hs
    have hab := hp (a, b) (by simp)
    have e := he (a, b) (by simp)
    simp only at e
    rw [hτ.now hs hx hab.1, hτ.now hs hy hab.2, app, app] at e
    have e2 := List.append_cancel_left e
    rw [app_flat, app_flat] at e2
    have tm : ∀ (l : List (List C)), (∀ k ∈ l, Trm k) → ∀ k ∈ l.map (app (ev s)), ∃ f, Tm f k := fun l hl k hk => by
      obtain ⟨k', hk', rfl⟩ := List.mem_map.1 hk
      obtain ⟨f, hf⟩ := (hl k' hk').1
      exact app_tm hT f k' hf
    have e3 := tms_one (tm xs hxs) (tm ys hys) e2
    refine ih hs (prs_args hxs hys hp) (fun q hq => ?_)
    rcases List.mem_append.1 hq with hq | hq
    · exact zip_map e3 q hq
    · exact he q (by simp [hq])
  | @bindL n n1 n2 s sf a b y r c res hx hy hc hne hr hU ih =>
    intro hs hp he
    have hτ := sol_ev hs
    have hab := hp (a, b) (by simp)
    have e := he (a, b) (by simp)
    simp only at e
    rw [hτ.now hs hx hab.1, hτ.now hs hy hab.2, app_var hc] at e
    obtain ⟨c', r', e1, hcb⟩ := hx.head
    simp only [List.cons.injEq] at e1
    obtain ⟨rfl, rfl⟩ := e1
    obtain ⟨d, r'', e1, hdb⟩ := hy.head
    exact absurd (free (hcb hc) ((hx.trm hs hab.1).2 c (by simp)) hc (hy.trm hs hab.2) (fun d' r' e' => by rw [e1] at e'; obtain ⟨rfl, rfl⟩ := List.cons.inj e'; exact hdb) e) hne
  | @ringL n1 n2 s a b y r c hx hy hc hne hr =>
    intro hs hp he
    obtain ⟨⟨s', e⟩, _⟩ := uni_most (ev_tr hs) (Uni.ringL (r := r) hx hy hc hne hr) hs hp (sol_ev hs) he
    cases e
  | @bindR n n1 n2 s sf a b x r c d res hx hy hc hd hr hU ih =>
    intro hs hp he
    have hτ := sol_ev hs
    have hab := hp (a, b) (by simp)
    have e := he (a, b) (by simp)
    simp only at e
    rw [hτ.now hs hx hab.1, hτ.now hs hy hab.2, app_var hc] at e
    obtain ⟨c', r', e1, hcb⟩ := hy.head
    simp only [List.cons.injEq] at e1
    obtain ⟨rfl, rfl⟩ := e1
    have := free (hcb hc) ((hy.trm hs hab.2).2 c (by simp)) hc (hx.trm hs hab.1) (fun d' r' e' hk => by obtain ⟨rfl, rfl⟩ := List.cons.inj e'; exact absurd hk hd) e.symm
    simp only [List.head?_cons, Option.some.injEq] at this
    rw [this] at hd
    exact absurd hc hd
  | @ringR n1 n2 s a b x r c d hx hy hc hd hr =>
    intro hs hp he
    obtain ⟨⟨s', e⟩, _⟩ := uni_most (ev_tr hs) (Uni.ringR (r := r) hx hy hc hd hr) hs hp (sol_ev hs) he
    cases e
  | @apart n1 n2 s a b x y r c d hx hy hc hd hcd =>
    intro hs hp he
    obtain ⟨⟨s', e⟩, _⟩ := uni_most (ev_tr hs) (Uni.apart (r := r) hx hy hc hd hcd) hs hp (sol_ev hs) he
    cases e
end Go.Proofs.Ytddhjafpacgdaaa
