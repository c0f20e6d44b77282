/- The plain mathematics of the search for a ring: a stack, what is opened, what is closed. -/
import Derived.Test.YtajkmebjmdolaaaDoorQPB1
namespace Go.Proofs.YtajkmebjmdolaaaDoor
set_option linter.unusedVariables false
set_option linter.unusedSimpArgs false

/-- u is bound, and stands in what v is bound to. -/
def kid (s : List B) (v u : Int) : Prop := varIn (getB s v) u ∧ getB s u ≠ []

def Closed (s : List B) : List Int → Prop
  | [] => True
  | c :: cl => (∀ u, kid s c u → u ∈ cl) ∧ Closed s cl

/-- What is opened, the last one first, each with what of its own is still to be looked at. -/
def Path (s : List B) (cl : List Int) (op : Int → Prop) : List (Int × List Int) → Prop
  | [] => True
  | x :: p => getB s x.1 ≠ [] ∧ x.1 ∉ cl ∧ x.1 ∉ p.map (·.1) ∧ (∀ u ∈ x.2, getB s u ≠ [] ∧ u ≠ x.1 ∧ u ∉ p.map (·.1)) ∧ (∀ u, kid s x.1 u → u ≠ x.1 ∧ u ∉ p.map (·.1)) ∧
      (∀ u, kid s x.1 u → u ∈ x.2 ∨ u ∈ cl ∨ op u) ∧ (∀ u ∈ x.2, kid s x.1 u) ∧ (∀ y, p.head? = some y → kid s y.1 x.1) ∧ Path s cl op p

def stackOf : List (Int × List Int) → List Int → List Int
  | [], S => S
  | x :: p, S => x.2 ++ x.1 :: stackOf p S

structure Dfs (s : List B) (cl : List Int) (p : List (Int × List Int)) (S : List Int) : Prop where
  clo : Closed s cl
  path : Path s cl (fun u => u ∈ p.map (·.1)) p
  base : ∀ v ∈ S, getB s v ≠ []
  all : ∀ v, getB s v ≠ [] → v ∈ S ∨ v ∈ cl ∨ v ∈ p.map (·.1)
  clb : ∀ v ∈ cl, getB s v ≠ []

theorem Path.mono {s : List B} {cl cl' : List Int} {op op' : Int → Prop} : ∀ {p : List (Int × List Int)}, Path s cl op p → (∀ u, u ∈ cl → u ∈ cl') → (∀ x ∈ p, x.1 ∉ cl') → (∀ u, op u → op' u ∨ u ∈ cl') → Path s cl' op' p
  | [], _, _, _, _ => trivial
  | x :: p, ⟨h1, h2, h3, h4, h5, h6, h7, h8, h9⟩, hc, hn, ho =>
    ⟨h1, hn x (by simp), h3, h4, h5, fun u hu => by
      rcases h6 u hu with h | h | h
      · exact .inl h
      · exact .inr (.inl (hc u h))
      · rcases ho u h with h | h
        · exact .inr (.inr h)
        · exact .inr (.inl h), h7, h8, h9.mono hc (fun y hy => hn y (by simp [hy])) ho⟩

theorem Path.bound {s : List B} {cl : List Int} {op : Int → Prop} : ∀ {p : List (Int × List Int)}, Path s cl op p → ∀ x ∈ p, getB s x.1 ≠ [] ∧ x.1 ∉ cl
  | y :: p, ⟨h1, h2, _, _, _, _, _, _, h9⟩, x, hx => by
      rcases List.mem_cons.1 hx with rfl | hx
      · exact ⟨h1, h2⟩
      · exact h9.bound x hx

theorem Dfs.start {s : List B} {S : List Int} (hb : ∀ v ∈ S, getB s v ≠ []) (ha : ∀ v, getB s v ≠ [] → v ∈ S) : Dfs s [] [] S :=
  ⟨trivial, trivial, hb, fun v hv => .inl (ha v hv), fun v hv => by simp at hv⟩

/-- The stack's top. -/
theorem Dfs.top {s : List B} {cl : List Int} {p : List (Int × List Int)} {S r : List Int} {v : Int} (h : Dfs s cl p S) (hs : stackOf p S = v :: r) :
    getB s v ≠ [] ∧ ((∃ q, p = (v, []) :: q ∧ r = stackOf q S) ∨ (v ∉ p.map (·.1) ∧ ((∃ S', p = [] ∧ S = v :: S' ∧ r = S') ∨ ∃ d T q, p = (d, v :: T) :: q ∧ r = stackOf ((d, T) :: q) S))) := by
  cases p with
  | nil =>
    simp only [stackOf] at hs
    subst hs
    exact ⟨h.base v (by simp), .inr ⟨by simp, .inl ⟨r, rfl, rfl, rfl⟩⟩⟩
  | cons x q =>
    obtain ⟨d, T⟩ := x
    obtain ⟨h1, h2, h3, h4, h5, h6, h7, h8, h9⟩ := h.path
    cases T with
    | nil =>
      simp only [stackOf, List.nil_append, List.cons.injEq] at hs
      obtain ⟨rfl, rfl⟩ := hs
      exact ⟨h1, .inl ⟨q, rfl, rfl⟩⟩
    | cons u T =>
      simp only [stackOf, List.cons_append, List.cons.injEq] at hs
      obtain ⟨rfl, rfl⟩ := hs
      have := h4 u (by simp)
      refine ⟨this.1, .inr ⟨by simp only [List.map_cons, List.mem_cons, not_or]; exact this.2, .inr ⟨d, T, q, rfl, rfl⟩⟩⟩

/-- The last that was opened is closed. -/
theorem Dfs.close {s : List B} {cl : List Int} {q : List (Int × List Int)} {S : List Int} {v : Int} (h : Dfs s cl ((v, []) :: q) S) : Dfs s (v :: cl) q S := by
  obtain ⟨h1, h2, h3, h4, h5, h6, h7, h8, h9⟩ := h.path
  refine ⟨⟨fun u hu => ?_, h.clo⟩, h9.mono (fun u hu => by simp [hu]) (fun x hx => ?_) (fun u hu => ?_), h.base, fun u hu => ?_, fun u hu => ?_⟩
  · rcases h6 u hu with h | h | h
    · simp at h
    · exact h
    · simp only [List.map_cons, List.mem_cons] at h
      have := h5 u hu
      rcases h with h | h
      · exact absurd h this.1
      · exact absurd h this.2
  · simp only [List.mem_cons, not_or]
    refine ⟨fun e => h3 (by simp only [← e]; exact List.mem_map.2 ⟨x, hx, rfl⟩), (h9.bound x hx).2⟩
  · simp only [List.map_cons, List.mem_cons] at hu
    rcases hu with hu | hu
    · exact .inr (by simp [hu])
    · exact .inl hu
  · rcases h.all u hu with h | h | h
    · exact .inl h
    · exact .inr (.inl (by simp [h]))
    · simp only [List.map_cons, List.mem_cons] at h
      rcases h with h | h
      · exact .inr (.inl (by simp [h]))
      · exact .inr (.inr h)
  · rcases List.mem_cons.1 hu with rfl | hu
    · exact h1
    · exact h.clb u hu

/-- One that is closed already is passed by. -/
theorem Dfs.pass0 {s : List B} {cl : List Int} {S : List Int} {v : Int} (h : Dfs s cl [] (v :: S)) (hv : v ∈ cl) : Dfs s cl [] S := by
  refine ⟨h.clo, h.path, fun u hu => h.base u (by simp [hu]), fun u hu => ?_, h.clb⟩
  rcases h.all u hu with h | h | h
  · rcases List.mem_cons.1 h with rfl | h
    · exact .inr (.inl hv)
    · exact .inl h
  · exact .inr (.inl h)
  · exact .inr (.inr h)
theorem Dfs.pass1 {s : List B} {cl : List Int} {S T : List Int} {q : List (Int × List Int)} {d v : Int} (h : Dfs s cl ((d, v :: T) :: q) S) (hv : v ∈ cl) : Dfs s cl ((d, T) :: q) S := by
  obtain ⟨h1, h2, h3, h4, h5, h6, h7, h8, h9⟩ := h.path
  refine ⟨h.clo, ⟨h1, h2, h3, fun u hu => h4 u (by simp [hu]), h5, fun u hu => ?_, fun u hu => h7 u (by simp [hu]), h8, h9⟩, h.base, h.all, h.clb⟩
  rcases h6 u hu with h | h | h
  · rcases List.mem_cons.1 h with rfl | h
    · exact .inr (.inl hv)
    · exact .inl h
  · exact .inr (.inl h)
  · exact .inr (.inr h)

/-- A new one is opened. -/
theorem Dfs.open0 {s : List B} {cl ks : List Int} {S : List Int} {v : Int} (h : Dfs s cl [] (v :: S)) (hv : v ∉ cl) (hk : ∀ u, u ∈ ks ↔ kid s v u) (hn : v ∉ ks) : Dfs s cl [(v, ks)] S := by
  have hb := h.base v (by simp)
  refine ⟨h.clo, ⟨hb, hv, by simp, fun u hu => ⟨((hk u).1 hu).2, fun e => hn (by rw [← show u = v from e]; exact hu), by simp⟩, fun u hu => ⟨fun e => hn (by rw [← show u = v from e]; exact (hk u).2 hu), by simp⟩, fun u hu => .inl ((hk u).2 hu), fun u hu => (hk u).1 hu, by simp, trivial⟩, fun u hu => h.base u (by simp [hu]), fun u hu => ?_, h.clb⟩
  rcases h.all u hu with h | h | h
  · rcases List.mem_cons.1 h with rfl | h
    · exact .inr (.inr (by simp))
    · exact .inl h
  · exact .inr (.inl h)
  · simp at h
theorem Dfs.open1 {s : List B} {cl ks : List Int} {S T : List Int} {q : List (Int × List Int)} {d v : Int} (h : Dfs s cl ((d, v :: T) :: q) S) (hv : v ∉ cl) (hk : ∀ u, u ∈ ks ↔ kid s v u) (hn : ∀ u ∈ ks, u ≠ v ∧ u ∉ ((d, T) :: q).map (·.1)) :
    Dfs s cl ((v, ks) :: (d, T) :: q) S := by
  obtain ⟨h1, h2, h3, h4, h5, h6, h7, h8, h9⟩ := h.path
  have hv4 := h4 v (by simp)
  have hvp : v ∉ ((d, T) :: q).map (·.1) := by simp only [List.map_cons, List.mem_cons, not_or]; exact hv4.2
  refine ⟨h.clo, ⟨hv4.1, hv, hvp, fun u hu => ⟨((hk u).1 hu).2, hn u hu⟩, fun u hu => hn u ((hk u).2 hu), fun u hu => .inl ((hk u).2 hu), fun u hu => (hk u).1 hu, fun y hy => ?_, ?_⟩, h.base, fun u hu => ?_, h.clb⟩
  · simp at hy; subst hy; exact h7 v (by simp)
  · refine ⟨h1, h2, h3, fun u hu => h4 u (by simp [hu]), h5, fun u hu => ?_, fun u hu => h7 u (by simp [hu]), h8, h9.mono (fun _ h => h) (fun x hx => (h9.bound x hx).2) (fun u hu => .inl (by simp only [List.map_cons, List.mem_cons] at hu ⊢; exact .inr hu))⟩
    rcases h6 u hu with h | h | h
    · rcases List.mem_cons.1 h with rfl | h
      · exact .inr (.inr (by simp))
      · exact .inl h
    · exact .inr (.inl h)
    · exact .inr (.inr (by simp only [List.map_cons, List.mem_cons] at h ⊢; exact .inr h))
  · rcases h.all u hu with h | h | h
    · exact .inl h
    · exact .inr (.inl h)
    · exact .inr (.inr (by simp only [List.map_cons, List.mem_cons] at h ⊢; exact .inr h))

/-- All that is opened leads to the last one. -/
theorem Path.chain {s : List B} {cl : List Int} {op : Int → Prop} : ∀ {p : List (Int × List Int)} {v : Int}, Path s cl op p → (∀ y, p.head? = some y → kid s y.1 v) → ∀ x ∈ p, Reach s (getB s x.1) v
  | y :: p, v, ⟨_, _, _, _, _, _, _, h8, h9⟩, hv, x, hx => by
      have hyv := hv y rfl
      rcases List.mem_cons.1 hx with rfl | hx
      · exact .here hyv.1
      · have := h9.chain (v := y.1) h8 x hx
        exact .step this hyv.1

/-- What is opened and met again leads to itself. -/
theorem ring_of {s : List B} {cl : List Int} {op : Int → Prop} {p : List (Int × List Int)} {v u : Int} (h : Path s cl op p) (hv : ∀ y, p.head? = some y → kid s y.1 v) (hk : kid s v u) (hu : u = v ∨ u ∈ p.map (·.1)) : ¬ NoRing s := by
  intro hn
  rcases hu with rfl | hu
  · exact hn u hk.2 (.here hk.1)
  · obtain ⟨x, hx, rfl⟩ := List.mem_map.1 hu
    exact hn x.1 hk.2 (.step (h.chain hv x hx) hk.1)

def rk : List Int → Int → Nat
  | [], _ => 0
  | c :: cl, v => if v ∈ cl then rk cl v else if v = c then cl.length + 1 else 0

theorem rk_le : ∀ (cl : List Int) (v : Int), rk cl v ≤ cl.length
  | [], _ => Nat.le_refl _
  | c :: cl, v => by
      have := rk_le cl v
      simp only [rk, List.length_cons]
      split
      · omega
      · split <;> omega

theorem closed_rank {s : List B} : ∀ {cl : List Int}, Closed s cl → ∀ v ∈ cl, ∀ u, kid s v u → u ∈ cl ∧ rk cl u < rk cl v
  | c :: cl, ⟨h1, h2⟩, v, hv, u, hu => by
      by_cases e : v ∈ cl
      · obtain ⟨q1, q2⟩ := closed_rank h2 v e u hu
        exact ⟨by simp [q1], by simp only [rk, if_pos e, if_pos q1]; exact q2⟩
      · obtain rfl : v = c := by
          rcases List.mem_cons.1 hv with h | h
          · exact h
          · exact absurd h e
        have q1 := h1 u hu
        have := rk_le cl u
        exact ⟨by simp [q1], by simp only [rk, if_pos q1, if_neg e]; simp; omega⟩

/-- Where nothing is left to be looked at no variable leads to itself. -/
theorem Dfs.ranked {s : List B} {cl : List Int} (h : Dfs s cl [] []) : Ranked s (rk cl) := fun v u hu hb => by
  have hv : v ∈ cl := by
    rcases h.all v (ne_of_varIn hu) with h | h | h
    · simp at h
    · exact h
    · simp at h
  exact (closed_rank h.clo v hv u ⟨hu, hb⟩).2
end Go.Proofs.YtajkmebjmdolaaaDoor
