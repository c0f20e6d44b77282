/- The plain mathematics of making two terms the same: pairs, step by step. -/
import Derived.Test.YtajkmebjmdolaaaDoorQPB2
namespace Go.Proofs.YtajkmebjmdolaaaDoor
set_option linter.unusedVariables false
set_option linter.unusedSimpArgs false

/-- What stands for a term: behind a variable that is bound what it is bound to, and on. -/
inductive Now (s : List B) : Nat → List C → List C → Prop
  | stop {c : C} {r : List C} : (c.k = 1 → getB s c.n = []) → Now s 0 (c :: r) (c :: r)
  | on {n : Nat} {c : C} {r x : List C} : c.k = 1 → getB s c.n ≠ [] → Now s n (getB s c.n) x → Now s (n + 1) (c :: r) x

theorem Now.det {s : List B} {n : Nat} {t x : List C} (h : Now s n t x) : ∀ {m : Nat} {y : List C}, Now s m t y → x = y ∧ n = m := by
  induction h with
  | stop hc =>
    intro m y k
    cases k with
    | stop _ => exact ⟨rfl, rfl⟩
    | on h1 h2 _ => exact absurd (hc h1) h2
  | on h1 h2 _ ih =>
    intro m y k
    cases k with
    | stop kc => exact absurd (kc h1) h2
    | on _ _ k =>
      obtain ⟨e1, e2⟩ := ih k
      exact ⟨e1, by omega⟩

/-- A term in the sense of places, however long. -/
def Trm (t : List C) : Prop := (∃ f, Tm f t) ∧ ∀ c ∈ t, okC c = true

/-- Bindings whose terms are terms, no variable twice, with a rank. -/
structure OkB (s : List B) : Prop where
  once : Once s
  term : ∀ x ∈ s, Trm x.t
  rank : ∃ ρ, Ranked s ρ

theorem Trm.ne {t : List C} (h : Trm t) : t ≠ [] := by
  obtain ⟨f, hf⟩ := h.1
  have := hf.pos
  intro e; subst e; simp at this

theorem OkB.get {s : List B} (h : OkB s) {v : Int} (hv : getB s v ≠ []) : Trm (getB s v) := by
  obtain ⟨x, hx, _, e⟩ := getB_mem hv
  rw [← e]
  exact h.term x hx

theorem OkB.bound {s : List B} (h : OkB s) {v : Int} : getB s v ≠ [] ↔ v ∈ s.map (·.v) := by
  constructor
  · intro hv
    obtain ⟨x, hx, e, _⟩ := getB_mem hv
    exact List.mem_map.2 ⟨x, hx, e⟩
  · intro hv
    obtain ⟨x, hx, rfl⟩ := List.mem_map.1 hv
    rw [getB_of h.once hx]
    exact (h.term x hx).ne

/-- The name ahead and its arguments. -/
theorem Trm.kids {t : List C} (h : Trm t) : ∃ (c : C) (ks : List (List C)), t = c :: ks.flatten ∧ (ks.length : Int) = ari c ∧ ks.length ≤ 3 ∧ okC c = true ∧ ∀ k ∈ ks, Trm k := by
  obtain ⟨⟨f, hf⟩, ho⟩ := h
  match f, hf with
  | f + 1, ⟨c, ks, e, hl, hk⟩ =>
    have hc : okC c = true := ho c (by rw [e]; simp)
    have h3 := (ari_ok hc).2
    refine ⟨c, ks, e, hl, by omega, hc, fun k hkm => ⟨⟨f, hk k hkm⟩, fun d hd => ho d (by rw [e]; exact List.mem_cons_of_mem _ (List.mem_flatten.2 ⟨k, hkm, hd⟩))⟩⟩

theorem Trm.var {c : C} {r : List C} (h : Trm (c :: r)) (hk : c.k = 1) : r = [] := by
  obtain ⟨d, ks, e, hl, _⟩ := h.kids
  simp only [List.cons.injEq] at e
  obtain ⟨rfl, e⟩ := e
  have : ks = [] := by simpa [ari, hk] using hl
  rw [e, this]; rfl

theorem trm_Trm {t : List C} (h : trm t = true) : Trm t := ⟨⟨_, trm_tree h⟩, ((trm_iff t).1 h).2.2.1⟩

theorem now_all {s : List B} (h : OkB s) {t : List C} (ht : Trm t) : ∃ n x, Now s n t x ∧ Trm x := by
  obtain ⟨ρ, hρ⟩ := h.rank
  have key : ∀ (r : Nat) (t : List C), Trm t → (∀ v, varIn t v → getB s v ≠ [] → ρ v < r) → ∃ n x, Now s n t x ∧ Trm x := by
    intro r
    induction r with
    | zero =>
      intro t ht hr
      obtain ⟨c, ks, rfl, _⟩ := ht.kids
      exact ⟨0, _, .stop (fun hk => Classical.byContradiction fun hn => absurd (hr c.n (varIn_cons.2 (.inl ⟨hk, rfl⟩)) hn) (Nat.not_lt_zero _)), ht⟩
    | succ r ih =>
      intro t ht hr
      obtain ⟨c, ks, rfl, _⟩ := ht.kids
      by_cases hk : c.k = 1
      · by_cases hb : getB s c.n = []
        · exact ⟨0, _, .stop (fun _ => hb), ht⟩
        · have hlt := hr c.n (varIn_cons.2 (.inl ⟨hk, rfl⟩)) hb
          obtain ⟨n, x, hn, hx⟩ := ih (getB s c.n) (h.get hb) (fun v hv hv' => by have := hρ c.n v hv hv'; omega)
          exact ⟨n + 1, x, .on hk hb hn, hx⟩
      · exact ⟨0, _, .stop (fun h => absurd h hk), ht⟩
  obtain ⟨r, hr⟩ := rank_bound ρ t
  exact key r t ht (fun v hv _ => hr v hv)

theorem Now.trm {s : List B} (hs : OkB s) {n : Nat} {t x : List C} (h : Now s n t x) (ht : Trm t) : Trm x := by
  induction h with
  | stop => exact ht
  | on _ h2 _ ih => exact ih (hs.get h2)

theorem Now.head {s : List B} {n : Nat} {t x : List C} (h : Now s n t x) : ∃ c r, x = c :: r ∧ (c.k = 1 → getB s c.n = []) := by
  induction h with
  | stop hc => exact ⟨_, _, rfl, hc⟩
  | on _ _ _ ih => exact ih

/-- What stands for a term is as full as the term. -/
theorem Now.exp {s : List B} (hs : OkB s) {n : Nat} {t x : List C} (h : Now s n t x) (ht : Trm t) {m : Nat} {z : List C} (he : Exp s m x z) : ∃ m', Exp s m' t z := by
  induction h with
  | stop => exact ⟨m, he⟩
  | @on n c r x h1 h2 _ ih =>
    obtain ⟨m', hm⟩ := ih (hs.get h2) he
    have := ht.var h1
    subst this
    refine ⟨m' + 0 + 1, ?_⟩
    have := Exp.sub (s := s) h1 h2 hm .nil
    simpa using this

/-- Pairs that are to be the same, the next one first: what comes of them in so many steps, and the bindings at the end, whether all could be made the same or not. -/
inductive Uni : Nat → List B → List (List C × List C) → Option (List B) → List B → Prop
  | done {s : List B} : Uni 0 s [] (some s) s
  | args {n n1 n2 : Nat} {s sf : List B} {a b : List C} {r : List (List C × List C)} {c : C} {xs ys : List (List C)} {res : Option (List B)} :
      Now s n1 a (c :: xs.flatten) → Now s n2 b (c :: ys.flatten) → (∀ k ∈ xs, Trm k) → (∀ k ∈ ys, Trm k) → (xs.length : Int) = ari c → (ys.length : Int) = ari c →
      Uni n s (xs.zip ys ++ r) res sf → Uni (n + 1) s ((a, b) :: r) res sf
  | bindL {n n1 n2 : Nat} {s sf : List B} {a b y : List C} {r : List (List C × List C)} {c : C} {res : Option (List B)} :
      Now s n1 a [c] → Now s n2 b y → c.k = 1 → y.head? ≠ some c → ¬ Reach s y c.n → Uni n (s ++ [⟨c.n, y⟩]) r res sf → Uni (n + 1) s ((a, b) :: r) res sf
  | ringL {n1 n2 : Nat} {s : List B} {a b y : List C} {r : List (List C × List C)} {c : C} :
      Now s n1 a [c] → Now s n2 b y → c.k = 1 → y.head? ≠ some c → Reach s y c.n → Uni 1 s ((a, b) :: r) none s
  | bindR {n n1 n2 : Nat} {s sf : List B} {a b x : List C} {r : List (List C × List C)} {c d : C} {res : Option (List B)} :
      Now s n1 a (d :: x) → Now s n2 b [c] → c.k = 1 → d.k ≠ 1 → ¬ Reach s (d :: x) c.n → Uni n (s ++ [⟨c.n, d :: x⟩]) r res sf → Uni (n + 1) s ((a, b) :: r) res sf
  | ringR {n1 n2 : Nat} {s : List B} {a b x : List C} {r : List (List C × List C)} {c d : C} :
      Now s n1 a (d :: x) → Now s n2 b [c] → c.k = 1 → d.k ≠ 1 → Reach s (d :: x) c.n → Uni 1 s ((a, b) :: r) none s
  | apart {n1 n2 : Nat} {s : List B} {a b x y : List C} {r : List (List C × List C)} {c d : C} :
      Now s n1 a (c :: x) → Now s n2 b (d :: y) → c.k ≠ 1 → d.k ≠ 1 → c ≠ d → Uni 1 s ((a, b) :: r) none s

/-- A variable that is not bound, bound to what does not lead to it. -/
theorem OkB.bind {s : List B} (h : OkB s) {v : Int} {y : List C} (hv : getB s v = []) (hy : Trm y) (hr : ¬ Reach s y v) : OkB (s ++ [⟨v, y⟩]) := by
  have hvs : v ∉ s.map (·.v) := fun hm => (h.bound.2 hm) hv
  have hg : ∀ u, getB (s ++ [⟨v, y⟩]) u = if u = v then y else getB s u := fun u => by
    rw [getB_append]
    by_cases e : u = v
    · subst e; rw [if_neg hvs, if_pos rfl]; simp [getB]
    · rw [if_neg e]
      split
      · rfl
      · rename_i hn
        have e' : ¬ (v = u) := fun h => e h.symm
        simp only [getB, if_neg e']
        exact (Classical.byContradiction fun hb => hn (h.bound.1 (fun e => hb e.symm)))
  refine ⟨?_, fun x hx => ?_, ?_⟩
  · unfold Once
    rw [List.map_append, List.nodup_append]
    exact ⟨h.once, by simp, fun a ha b hb => by simp at hb; subst hb; intro e; subst e; exact hvs ha⟩
  · rcases List.mem_append.1 hx with hx | hx
    · exact h.term x hx
    · simp at hx; subst hx; exact hy
  · obtain ⟨ρ, hρ⟩ := h.rank
    obtain ⟨r, hr0⟩ := rank_bound ρ y
    classical
    -- all that leads to v goes above v; v above what it leads to
    let L : Int → Prop := fun u => Reach s (getB s u) v
    refine ⟨fun u => if u = v then r else if L u then ρ u + r + 1 else ρ u, fun a u ha hb => ?_⟩
    rw [hg] at ha hb
    by_cases ea : a = v
    · subst ea
      rw [if_pos rfl] at ha
      by_cases eu : u = a
      · subst eu; exact absurd (.here ha) hr
      · rw [if_neg eu] at hb
        have hL : ¬ L u := fun hl => hr (by
          have : ∀ w, Reach s (getB s u) w → Reach s y w := fun w hw => by
            induction hw with
            | here h1 => exact .step (.here ha) h1
            | step _ h2 ih => exact .step ih h2
          exact this _ hl)
        simp only [if_pos rfl, if_neg eu, if_neg hL]
        exact hr0 u ha
    · rw [if_neg ea] at ha
      by_cases eu : u = v
      · subst eu
        have hL : L a := .here ha
        simp only [if_neg ea, if_pos hL, if_true]
        omega
      · rw [if_neg eu] at hb
        have h1 := hρ a u ha hb
        simp only [if_neg ea, if_neg eu]
        by_cases hu : L u
        · have hL : L a := by
            have : ∀ w, Reach s (getB s u) w → Reach s (getB s a) w := fun w hw => by
              induction hw with
              | here h1 => exact .step (.here ha) h1
              | step _ h2 ih => exact .step ih h2
            exact this _ hu
          rw [if_pos hu, if_pos hL]; omega
        · rw [if_neg hu]
          split <;> omega
end Go.Proofs.YtajkmebjmdolaaaDoor
