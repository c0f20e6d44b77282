import Derived.Test.YtonpahhcfgdeoaaQPlainPlain4PB1
/- The plain mathematics of the search for a ring: a stack, what is opened, what is closed. -/
namespace Go.Proofs.Ytonpahhcfgdeoaa
set_option linter.unusedVariables false
set_option linter.unusedSimpArgs false

/-- u is bound, and stands in what v is bound to. -/
def kid (s : List B) (v u : Int) : Prop := varIn (getB s v) u ∧ getB s u ≠ []

def Closed (s : List B) : List Int → Prop
  | [] => True
  | c :: cl => (∀ u, kid s c u → u ∈ cl) ∧ Closed s cl

/-- What is opened, the last one first, each with what of its own is still to be looked at. -/
def Path (s : List B) (cl : List Int) (op : Int → Prop) : List (Int × List Int) → Prop
  | [] => True
  | x :: p => getB s x.1 ≠ [] ∧ x.1 ∉ cl ∧ x.1 ∉ p.map (·.1) ∧ (∀ u ∈ x.2, getB s u ≠ [] ∧ u ≠ x.1 ∧ u ∉ p.map (·.1)) ∧ (∀ u, kid s x.1 u → u ≠ x.1 ∧ u ∉ p.map (·.1)) ∧
      (∀ u, kid s x.1 u → u ∈ x.2 ∨ u ∈ cl ∨ op u) ∧ (∀ u ∈ x.2, kid s x.1 u) ∧ (∀ y, p.head? = some y → kid s y.1 x.1) ∧ Path s cl op p

def stackOf : List (Int × List Int) → List Int → List Int
  | [], S => S
  | x :: p, S => x.2 ++ x.1 :: stackOf p S

structure Dfs (s : List B) (cl : List Int) (p : List (Int × List Int)) (S : List Int) : Prop where
  clo : Closed s cl
  path : Path s cl (fun u => u ∈ p.map (·.1)) p
  base : ∀ v ∈ S, getB s v ≠ []
  all : ∀ v, getB s v ≠ [] → v ∈ S ∨ v ∈ cl ∨ v ∈ p.map (·.1)
  clb : ∀ v ∈ cl, getB s v ≠ []

theorem Path.mono {s : List B} {cl cl' : List Int} {op op' : Int → Prop} : ∀ {p : List (Int × List Int)}, Path s cl op p → (∀ u, u ∈ cl → u ∈ cl') → (∀ x ∈ p, x.1 ∉ cl') → (∀ u, op u → op' u ∨ u ∈ cl') → Path s cl' op' p
  | [], _, _, _, _ => trivial
  | x :: p, ⟨h1, h2, h3, h4, h5, h6, h7, h8, h9⟩, hc, hn, ho =>
    ⟨h1, hn x (by simp), h3, h4, h5, fun u hu => by
      rcases h6 u hu with h | h | h
      · exact .inl h
      · exact .inr (.inl (hc u h))
      · rcases ho u h with h | h
        · exact .inr (.inr h)
        · exact .inr (.inl h), h7, h8, h9.mono hc (fun y hy => hn y (by simp [hy])) ho⟩

theorem Path.bound {s : List B} {cl : List Int} {op : Int → Prop} : ∀ {p : List (Int × List Int)}, Path s cl op p → ∀ x ∈ p, getB s x.1 ≠ [] ∧ x.1 ∉ cl
  | y :: p, ⟨h1, h2, _, _, _, _, _, _, h9⟩, x, hx => by
      rcases List.mem_cons.1 hx with rfl | hx
      · exact ⟨h1, h2⟩
      · exact h9.bound x hx

theorem Dfs.start {s : List B} {S : List Int} (hb : ∀ v ∈ S, getB s v ≠ []) (ha : ∀ v, getB s v ≠ [] → v ∈ S) : Dfs s [] [] S :=
  ⟨trivial, trivial, hb, fun v hv => .inl (ha v hv), fun v hv => by simp at hv⟩

/-- The stack's top. -/
theorem Dfs.top {s : List B} {cl : List Int} {p : List (Int × List Int)} {S r : List Int} {v : Int} (h : Dfs s cl p S) (hs : stackOf p S = v :: r) :
    getB s v ≠ [] ∧ ((∃ q, p = (v, []) :: q ∧ r = stackOf q S) ∨ (v ∉ p.map (·.1) ∧ ((∃ S', p = [] ∧ S = v :: S' ∧ r = S') ∨ ∃ d T q, p = (d, v :: T) :: q ∧ r = stackOf ((d, T) :: q) S))) := by
  cases p with
  | nil =>
    simp only [stackOf] at hs
    subst hs
    exact ⟨h.base v (by simp), .inr ⟨by simp, .inl ⟨r, rfl, rfl, rfl⟩⟩⟩
  | cons x q =>
    obtain ⟨d, T⟩ := x
    obtain ⟨h1, h2, h3, h4, h5, h6, h7, h8, h9⟩ := h.path
    cases T with
    | nil =>
      simp only [stackOf, List.nil_append, List.cons.injEq] at hs
      obtain ⟨rfl, rfl⟩ := hs
      exact ⟨h1, .inl ⟨q, rfl, rfl⟩⟩
    | cons u T =>
      simp only [stackOf, List.cons_append, List.cons.injEq] at hs
      obtain ⟨rfl, rfl⟩ := hs
      have := h4 u (by simp)
      refine ⟨this.1, .inr ⟨by simp only [List.map_cons, List.mem_cons, not_or]; exact this.2, .inr ⟨d, T, q, rfl, rfl⟩⟩⟩

/-- The last that was opened is closed. -/
theorem Dfs.close {s : List B} {cl : List Int} {q : List (Int × List Int)} {S : List Int} {v : Int} (h : Dfs s cl ((v, []) :: q) S) : Dfs s (v :: cl) q S := by
  obtain ⟨h1, h2, h3, h4, h5, h6, h7, h8, h9⟩ := h.path
  refine ⟨⟨fun u hu => ?_, h.clo⟩, h9.mono (fun u hu => by simp [hu]) (fun x hx => ?_) (fun u hu => ?_), h.base, fun u hu => ?_, fun u hu => ?_⟩
  · rcases h6 u hu with h | h | h
    · simp at h
    · exact h
    · simp only [List.map_cons, List.mem_cons] at h
      have := h5 u hu
      rcases h with h | h
      · exact absurd h this.1
      · exact absurd h this.2
  · simp only [List.mem_cons, not_or]
    refine ⟨fun e => h3 (by simp only [← e]; exact List.mem_map.2 ⟨x, hx, rfl⟩), (h9.bound x hx).2⟩
  · simp only [List.map_cons, List.mem_cons] at hu
    rcases hu with hu | hu
    · exact .inr (by simp [hu])
    · exact .inl hu
  · rcases h.all u hu with h | h | h
    · exact .inl h
    · exact .inr (.inl (by simp [h]))
    · simp only [List.map_cons, List.mem_cons] at h
      rcases h with h | h
      · exact .inr (.inl (by simp [h]))
      · exact .inr (.inr h)
  · rcases List.mem_cons.1 hu with rfl | hu
    · exact h1
    · exact h.clb u hu

/-- One that is closed already is passed by. -/
theorem Dfs.pass0 {s : List B} {cl : List Int} {S : List Int} {v : Int} (h : Dfs s cl [] (v :: S)) (hv : v ∈ cl) : Dfs s cl [] S := by
  refine ⟨h.clo, h.path, fun u hu => h.base u (by simp [hu]), fun u hu => ?_, h.clb⟩
  rcases h.all u hu with h | h | h
  · rcases List.mem_cons.1 h with rfl | h
    · exact .inr (.inl hv)
    · exact .inl h
  · exact .inr (.inl h)
  · exact .inr (.inr h)
theorem Dfs.pass1 {s : List B} {cl : List Int} {S T : List Int} {q : List (Int × List Int)} {d v : Int} (h : Dfs s cl ((d, v :: T) :: q) S) (hv : v ∈ cl) : Dfs s cl ((d, T) :: q) S := by
  obtain ⟨h1, h2, h3, h4, h5, h6, h7, h8, h9⟩ := h.path
  refine ⟨h.clo, ⟨h1, h2, h3, fun u hu => h4 u (by simp [hu]), h5, fun u hu => ?_, fun u hu => h7 u (by simp [hu]), h8, h9⟩, h.base, h.all, h.clb⟩
  rcases h6 u hu with h | h | h
  · rcases List.mem_cons.1 h with rfl | h
    · exact .inr (.inl hv)
    · exact .inl h
  · exact .inr (.inl h)
  · exact .inr (.inr h)

/-- A new one is opened. -/
theorem Dfs.open0 {s : List B} {cl ks : List Int} {S : List Int} {v : Int} (h : Dfs s cl [] (v :: S)) (hv : v ∉ cl) (hk : ∀ u, u ∈ ks ↔ kid s v u) (hn : v ∉ ks) : Dfs s cl [(v, ks)] S := by
  have hb := h.base v (by simp)
  refine ⟨h.clo, ⟨hb, hv, by simp, fun u hu => ⟨((hk u).1 hu).2, fun e => hn (by rw [← show u = v from e]; exact hu), by simp⟩, fun u hu => ⟨fun e => hn (by rw [← show u = v from e]; exact (hk u).2 hu), by simp⟩, fun u hu => .inl ((hk u).2 hu), fun u hu => (hk u).1 hu, by simp, trivial⟩, fun u hu => h.base u (by simp [hu]), fun u hu => ?_, h.clb⟩
  rcases h.all u hu with h | h | h
  · rcases List.mem_cons.1 h with rfl | h
    · exact .inr (.inr (by simp))
    · exact .inl h
  · exact .inr (.inl h)
  · simp at h
theorem Dfs.open1 {s : List B} {cl ks : List Int} {S T : List Int} {q : List (Int × List Int)} {d v : Int} (h : Dfs s cl ((d, v :: T) :: q) S) (hv : v ∉ cl) (hk : ∀ u, u ∈ ks ↔ kid s v u) (hn : ∀ u ∈ ks, u ≠ v ∧ u ∉ ((d, T) :: q).map (·.1)) :
    Dfs s cl ((v, ks) :: (d, T) :: q) S := by
  obtain ⟨h1, h2, h3, h4, h5, h6, h7, h8, h9⟩ := h.path
  have hv4 := h4 v (by simp)
  have hvp : v ∉ ((d, T) :: q).map (·.1) := by simp only [List.map_cons, List.mem_cons, not_or]; exact hv4.2
  refine ⟨h.clo, ⟨hv4.1, hv, hvp, fun u hu => ⟨((hk u).1 hu).2, hn u hu⟩, fun u hu => hn u ((hk u).2 hu), fun u hu => .inl ((hk u).2 hu), fun u hu => (hk u).1 hu, fun y hy => ?_, ?_⟩, h.base, fun u hu => ?_, h.clb⟩
  · simp at hy; subst hy; exact h7 v (by simp)
  · refine ⟨h1, h2, h3, fun u hu => h4 u (by simp [hu]), h5, fun u hu => ?_, fun u hu => h7 u (by simp [hu]), h8, h9.mono (fun _ h => h) (fun x hx => (h9.bound x hx).2) (fun u hu => .inl (by simp only [List.map_cons, List.mem_cons] at hu ⊢; exact .inr hu))⟩
    rcases h6 u hu with h | h | h
    · rcases List.mem_cons.1 h with rfl | h
      · exact .inr (.inr (by simp))
      · exact .inl h
    · exact .inr (.inl h)
    · exact .inr (.inr (by simp only [List.map_cons, List.mem_cons] at h ⊢; exact .inr h))
  · rcases h.all u hu with h | h | h
    · exact .inl h
    · exact .inr (.inl h)
    · exact .inr (.inr (by simp only [List.map_cons, List.mem_cons] at h ⊢; exact .inr h))

/-- All that is opened leads to the last one. -/
theorem Path.chain {s : List B} {cl : List Int} {op : Int → Prop} : ∀ {p : List (Int × List Int)} {v : Int}, Path s cl op p → (∀ y, p.head? = some y → kid s y.1 v) → ∀ x ∈ p, Reach s (getB s x.1) v
  | y :: p, v, ⟨_, _, _, _, _, _, _, h8, h9⟩, hv, x, hx => by
      have hyv := hv y rfl
      rcases List.mem_cons.1 hx with rfl | hx
      · exact .here hyv.1
      · have := h9.chain (v := y.1) h8 x hx
        exact .step this hyv.1

/-- What is opened and met again leads to itself. -/
theorem ring_of {s : List B} {cl : List Int} {op : Int → Prop} {p : List (Int × List Int)} {v u : Int} (h : Path s cl op p) (hv : ∀ y, p.head? = some y → kid s y.1 v) (hk : kid s v u) (hu : u = v ∨ u ∈ p.map (·.1)) : ¬ NoRing s := by
  intro hn
  rcases hu with rfl | hu
  · exact hn u hk.2 (.here hk.1)
  · obtain ⟨x, hx, rfl⟩ := List.mem_map.1 hu
    exact hn x.1 hk.2 (.step (h.chain hv x hx) hk.1)

def rk : List Int → Int → Nat
  | [], _ => 0
  | c :: cl, v => if v ∈ cl then rk cl v else if v = c then cl.length + 1 else 0

theorem rk_le : ∀ (cl : List Int) (v : Int), rk cl v ≤ cl.length
  | [], _ => Nat.le_refl _
  | c :: cl, v => by
      have := rk_le cl v
      simp only [rk, List.length_cons]
      split
      · omega
      · split <;> omega

theorem closed_rank {s : List B} : ∀ {cl : List Int}, Closed s cl → ∀ v ∈ cl, ∀ u, kid s v u → u ∈ cl ∧ rk cl u < rk cl v
  | c :: cl, ⟨h1, h2⟩, v, hv, u, hu => by
      by_cases e : v ∈ cl
      · obtain ⟨q1, q2⟩ := closed_rank h2 v e u hu
        exact ⟨by simp [q1], by simp only [rk, if_pos e, if_pos q1]; exact q2⟩
      · obtain rfl : v = c := by
          rcases List.mem_cons.1 hv with h | h
          · exact h
          · exact absurd h e
        have q1 := h1 u hu
        have := rk_le cl u
        exact ⟨by simp [q1], by simp only [rk, if_pos q1, if_neg e]; simp; omega⟩

/-- Where nothing is left to be looked at no variable leads to itself. -/
theorem Dfs.ranked {s : List B} {cl : List Int} (h : Dfs s cl [] []) : Ranked s (rk cl) := fun v u hu hb => by
  have hv : v ∈ cl := by
    rcases h.all v (ne_of_varIn hu) with h | h | h
    · simp at h
    · exact h
    · simp at h
  exact (closed_rank h.clo v hv u ⟨hu, hb⟩).2
end Go.Proofs.Ytonpahhcfgdeoaa

/- The plain mathematics of making two terms the same: pairs, step by step. -/
namespace Go.Proofs.Ytonpahhcfgdeoaa
set_option linter.unusedVariables false
set_option linter.unusedSimpArgs false

/-- What stands for a term: behind a variable that is bound what it is bound to, and on. -/
inductive Now (s : List B) : Nat → List C → List C → Prop
  | stop {c : C} {r : List C} : (c.k = 1 → getB s c.n = []) → Now s 0 (c :: r) (c :: r)
  | on {n : Nat} {c : C} {r x : List C} : c.k = 1 → getB s c.n ≠ [] → Now s n (getB s c.n) x → Now s (n + 1) (c :: r) x

theorem Now.det {s : List B} {n : Nat} {t x : List C} (h : Now s n t x) : ∀ {m : Nat} {y : List C}, Now s m t y → x = y ∧ n = m := by
  induction h with
  | stop hc =>
    intro m y k
    cases k with
    | stop _ => exact ⟨rfl, rfl⟩
    | on h1 h2 _ => exact absurd (hc h1) h2
  | on h1 h2 _ ih =>
    intro m y k
    cases k with
    | stop kc => exact absurd (kc h1) h2
    | on _ _ k =>
      obtain ⟨e1, e2⟩ := ih k
      exact ⟨e1, by omega⟩

/-- A term in the sense of places, however long. -/
def Trm (t : List C) : Prop := (∃ f, Tm f t) ∧ ∀ c ∈ t, okC c = true

/-- Bindings whose terms are terms, no variable twice, with a rank. -/
structure OkB (s : List B) : Prop where
  once : Once s
  term : ∀ x ∈ s, Trm x.t
  rank : ∃ ρ, Ranked s ρ

theorem Trm.ne {t : List C} (h : Trm t) : t ≠ [] := by
  obtain ⟨f, hf⟩ := h.1
  have := hf.pos
  intro e; subst e; simp at this

theorem OkB.get {s : List B} (h : OkB s) {v : Int} (hv : getB s v ≠ []) : Trm (getB s v) := by
  obtain ⟨x, hx, _, e⟩ := getB_mem hv
  rw [← e]
  exact h.term x hx

theorem OkB.bound {s : List B} (h : OkB s) {v : Int} : getB s v ≠ [] ↔ v ∈ s.map (·.v) := by
  constructor
  · intro hv
    obtain ⟨x, hx, e, _⟩ := getB_mem hv
    exact List.mem_map.2 ⟨x, hx, e⟩
  · intro hv
    obtain ⟨x, hx, rfl⟩ := List.mem_map.1 hv
    rw [getB_of h.once hx]
    exact (h.term x hx).ne

/-- The name ahead and its arguments. -/
theorem Trm.kids {t : List C} (h : Trm t) : ∃ (c : C) (ks : List (List C)), t = c :: ks.flatten ∧ (ks.length : Int) = ari c ∧ ks.length ≤ 3 ∧ okC c = true ∧ ∀ k ∈ ks, Trm k := by
  obtain ⟨⟨f, hf⟩, ho⟩ := h
  match f, hf with
  | f + 1, ⟨c, ks, e, hl, hk⟩ =>
    have hc : okC c = true := ho c (by rw [e]; simp)
    have h3 := (ari_ok hc).2
    refine ⟨c, ks, e, hl, by omega, hc, fun k hkm => ⟨⟨f, hk k hkm⟩, fun d hd => ho d (by rw [e]; exact List.mem_cons_of_mem _ (List.mem_flatten.2 ⟨k, hkm, hd⟩))⟩⟩

theorem Trm.var {c : C} {r : List C} (h : Trm (c :: r)) (hk : c.k = 1) : r = [] := by
  obtain ⟨d, ks, e, hl, _⟩ := h.kids
  simp only [List.cons.injEq] at e
  obtain ⟨rfl, e⟩ := e
  have : ks = [] := by simpa [ari, hk] using hl
  rw [e, this]; rfl

theorem trm_Trm {t : List C} (h : trm t = true) : Trm t := ⟨⟨_, trm_tree h⟩, ((trm_iff t).1 h).2.2.1⟩

theorem now_all {s : List B} (h : OkB s) {t : List C} (ht : Trm t) : ∃ n x, Now s n t x ∧ Trm x := by
  obtain ⟨ρ, hρ⟩ := h.rank
  have key : ∀ (r : Nat) (t : List C), Trm t → (∀ v, varIn t v → getB s v ≠ [] → ρ v < r) → ∃ n x, Now s n t x ∧ Trm x := by
    intro r
    induction r with
    | zero =>
      intro t ht hr
      obtain ⟨c, ks, rfl, _⟩ := ht.kids
      exact ⟨0, _, .stop (fun hk => Classical.byContradiction fun hn => absurd (hr c.n (varIn_cons.2 (.inl ⟨hk, rfl⟩)) hn) (Nat.not_lt_zero _)), ht⟩
    | succ r ih =>
      intro t ht hr
      obtain ⟨c, ks, rfl, _⟩ := ht.kids
      by_cases hk : c.k = 1
      · by_cases hb : getB s c.n = []
        · exact ⟨0, _, .stop (fun _ => hb), ht⟩
        · have hlt := hr c.n (varIn_cons.2 (.inl ⟨hk, rfl⟩)) hb
          obtain ⟨n, x, hn, hx⟩ := ih (getB s c.n) (h.get hb) (fun v hv hv' => by have := hρ c.n v hv hv'; omega)
          exact ⟨n + 1, x, .on hk hb hn, hx⟩
      · exact ⟨0, _, .stop (fun h => absurd h hk), ht⟩
  obtain ⟨r, hr⟩ := rank_bound ρ t
  exact key r t ht (fun v hv _ => hr v hv)

theorem Now.trm {s : List B} (hs : OkB s) {n : Nat} {t x : List C} (h : Now s n t x) (ht : Trm t) : Trm x := by
  induction h with
  | stop => exact ht
  | on _ h2 _ ih => exact ih (hs.get h2)

theorem Now.head {s : List B} {n : Nat} {t x : List C} (h : Now s n t x) : ∃ c r, x = c :: r ∧ (c.k = 1 → getB s c.n = []) := by
  induction h with
  | stop hc => exact ⟨_, _, rfl, hc⟩
  | on _ _ _ ih => exact ih

/-- What stands for a term is as full as the term. -/
theorem Now.exp {s : List B} (hs : OkB s) {n : Nat} {t x : List C} (h : Now s n t x) (ht : Trm t) {m : Nat} {z : List C} (he : Exp s m x z) : ∃ m', Exp s m' t z := by
  induction h with
  | stop => exact ⟨m, he⟩
  | @on n c r x h1 h2 _ ih =>
    obtain ⟨m', hm⟩ := ih (hs.get h2) he
    have := ht.var h1
    subst this
    refine ⟨m' + 0 + 1, ?_⟩
    have := Exp.sub (s := s) h1 h2 hm .nil
    simpa using this

/-- Pairs that are to be the same, the next one first: what comes of them in so many steps, and the bindings at the end, whether all could be made the same or not. -/
inductive Uni : Nat → List B → List (List C × List C) → Option (List B) → List B → Prop
  | done {s : List B} : Uni 0 s [] (some s) s
  | args {n n1 n2 : Nat} {s sf : List B} {a b : List C} {r : List (List C × List C)} {c : C} {xs ys : List (List C)} {res : Option (List B)} :
      Now s n1 a (c :: xs.flatten) → Now s n2 b (c :: ys.flatten) → (∀ k ∈ xs, Trm k) → (∀ k ∈ ys, Trm k) → (xs.length : Int) = ari c → (ys.length : Int) = ari c →
      Uni n s (xs.zip ys ++ r) res sf → Uni (n + 1) s ((a, b) :: r) res sf
  | bindL {n n1 n2 : Nat} {s sf : List B} {a b y : List C} {r : List (List C × List C)} {c : C} {res : Option (List B)} :
      Now s n1 a [c] → Now s n2 b y → c.k = 1 → y.head? ≠ some c → ¬ Reach s y c.n → Uni n (s ++ [⟨c.n, y⟩]) r res sf → Uni (n + 1) s ((a, b) :: r) res sf
  | ringL {n1 n2 : Nat} {s : List B} {a b y : List C} {r : List (List C × List C)} {c : C} :
      Now s n1 a [c] → Now s n2 b y → c.k = 1 → y.head? ≠ some c → Reach s y c.n → Uni 1 s ((a, b) :: r) none s
  | bindR {n n1 n2 : Nat} {s sf : List B} {a b x : List C} {r : List (List C × List C)} {c d : C} {res : Option (List B)} :
      Now s n1 a (d :: x) → Now s n2 b [c] → c.k = 1 → d.k ≠ 1 → ¬ Reach s (d :: x) c.n → Uni n (s ++ [⟨c.n, d :: x⟩]) r res sf → Uni (n + 1) s ((a, b) :: r) res sf
  | ringR {n1 n2 : Nat} {s : List B} {a b x : List C} {r : List (List C × List C)} {c d : C} :
      Now s n1 a (d :: x) → Now s n2 b [c] → c.k = 1 → d.k ≠ 1 → Reach s (d :: x) c.n → Uni 1 s ((a, b) :: r) none s
  | apart {n1 n2 : Nat} {s : List B} {a b x y : List C} {r : List (List C × List C)} {c d : C} :
      Now s n1 a (c :: x) → Now s n2 b (d :: y) → c.k ≠ 1 → d.k ≠ 1 → c ≠ d → Uni 1 s ((a, b) :: r) none s

/-- A variable that is not bound, bound to what does not lead to it. -/
theorem OkB.bind {s : List B} (h : OkB s) {v : Int} {y : List C} (hv : getB s v = []) (hy : Trm y) (hr : ¬ Reach s y v) : OkB (s ++ [⟨v, y⟩]) := by
  have hvs : v ∉ s.map (·.v) := fun hm => (h.bound.2 hm) hv
  have hg : ∀ u, getB (s ++ [⟨v, y⟩]) u = if u = v then y else getB s u := fun u => by
    rw [getB_append]
    by_cases e : u = v
    · subst e; rw [if_neg hvs, if_pos rfl]; simp [getB]
    · rw [if_neg e]
      split
      · rfl
      · rename_i hn
        have e' : ¬ (v = u) := fun h => e h.symm
        simp only [getB, if_neg e']
        exact (Classical.byContradiction fun hb => hn (h.bound.1 (fun e => hb e.symm)))
  refine ⟨?_, fun x hx => ?_, ?_⟩
  · unfold Once
    rw [List.map_append, List.nodup_append]
    exact ⟨h.once, by simp, fun a ha b hb => by simp at hb; subst hb; intro e; subst e; exact hvs ha⟩
  · rcases List.mem_append.1 hx with hx | hx
    · exact h.term x hx
    · simp at hx; subst hx; exact hy
  · obtain ⟨ρ, hρ⟩ := h.rank
    obtain ⟨r, hr0⟩ := rank_bound ρ y
    classical
    -- all that leads to v goes above v; v above what it leads to
    let L : Int → Prop := fun u => Reach s (getB s u) v
    refine ⟨fun u => if u = v then r else if L u then ρ u + r + 1 else ρ u, fun a u ha hb => ?_⟩
    rw [hg] at ha hb
    by_cases ea : a = v
    · subst ea
      rw [if_pos rfl] at ha
      by_cases eu : u = a
      · subst eu; exact absurd (.here ha) hr
      · rw [if_neg eu] at hb
        have hL : ¬ L u := fun hl => hr (by
          have : ∀ w, Reach s (getB s u) w → Reach s y w := fun w hw => by
            induction hw with
            | here h1 => exact .step (.here ha) h1
            | step _ h2 ih => exact .step ih h2
          exact this _ hl)
        simp only [if_pos rfl, if_neg eu, if_neg hL]
        exact hr0 u ha
    · rw [if_neg ea] at ha
      by_cases eu : u = v
      · subst eu
        have hL : L a := .here ha
        simp only [if_neg ea, if_pos hL, if_true]
        omega
      · rw [if_neg eu] at hb
        have h1 := hρ a u ha hb
        simp only [if_neg ea, if_neg eu]
        by_cases hu : L u
        · have hL : L a := by
            have : ∀ w, Reach s (getB s u) w → Reach s (getB s a) w := fun w hw => by
              induction hw with
              | here h1 => exact .step (.here ha) h1
              | step _ h2 ih => exact .step ih h2
            exact this _ hu
          rw [if_pos hu, if_pos hL]; omega
        · rw [if_neg hu]
          split <;> omega
end Go.Proofs.Ytonpahhcfgdeoaa
