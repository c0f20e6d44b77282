import Derived.Test.YtonpahhcfgdeoaaDoorQPB2PB3
import Derived.Test.YtonpahhcfgdeoaaDoorQW11W12
import Derived.Test.YtonpahhcfgdeoaaDoorQW13SB1Plain2YB3Z0
import Derived.Test.YtonpahhcfgdeoaaDoorQYS1YX1YB4W6W14YB5YT0
/- To make two terms the same comes to an end. -/
namespace Go.Proofs.YtonpahhcfgdeoaaDoor
set_option linter.unusedVariables false
set_option linter.unusedSimpArgs false

/-- All pairs are of terms. -/
def Prs (ps : List (List C × List C)) : Prop := ∀ p ∈ ps, Trm p.1 ∧ Trm p.2

/-- All variables are among these. -/
def InV (V : List Int) (s : List B) (ps : List (List C × List C)) : Prop :=
  (∀ u v, varIn (getB s u) v → v ∈ V) ∧ ∀ p ∈ ps, ∀ v, varIn p.1 v ∨ varIn p.2 v → v ∈ V

theorem Now.inV {V : List Int} {s : List B} {ps : List (List C × List C)} (hV : InV V s ps) {n : Nat} {t x : List C} (h : Now s n t x) : (∀ v, varIn t v → v ∈ V) → ∀ v, varIn x v → v ∈ V := by
  induction h with
  | stop => exact fun h => h
  | on _ _ _ ih => exact fun _ => ih (fun v hv => hV.1 _ v hv)

def unb (V : List Int) (s : List B) : Nat := (V.filter fun v => (getB s v).isEmpty).length

theorem filter_le {α : Type} {p q : α → Bool} : ∀ {l : List α}, (∀ x ∈ l, p x = true → q x = true) → (l.filter p).length ≤ (l.filter q).length
  | [], _ => Nat.le_refl _
  | x :: l, h => by
      have ih := filter_le (p := p) (q := q) (l := l) (fun y hy => h y (by simp [hy]))
      have hx := h x (by simp)
      rw [List.filter_cons, List.filter_cons]
      cases hp : p x with
      | true => rw [hx hp]; simp; exact ih
      | false => rw [if_neg (by simp)]; split
                 · rw [List.length_cons]; omega
                 · omega

theorem filter_lt {α : Type} {p q : α → Bool} : ∀ {l : List α} {y : α}, y ∈ l → q y = true → p y = false → (∀ x ∈ l, p x = true → q x = true) → (l.filter p).length < (l.filter q).length
  | x :: l, y, hy, hq, hp, h => by
      rw [List.filter_cons, List.filter_cons]
      rcases List.mem_cons.1 hy with rfl | hy
      · rw [hq, hp]
        have := filter_le (p := p) (q := q) (l := l) (fun y hy => h y (by simp [hy]))
        simp; omega
      · have ih := filter_lt hy hq hp (fun y hy => h y (by simp [hy]))
        have hx := h x (by simp)
        cases hpx : p x with
        | true => rw [hx hpx]; simp; exact ih
        | false =>
          rw [if_neg (by simp)]; split
          · rw [List.length_cons]; omega
          · omega

theorem getB_bind {s : List B} (h : OkB s) {v : Int} {y : List C} (hv : getB s v = []) (u : Int) : getB (s ++ [⟨v, y⟩]) u = if u = v then y else getB s u := by
  have hvs : v ∉ s.map (·.v) := fun hm => (h.bound.2 hm) hv
  rw [getB_append]
  by_cases e : u = v
  · subst e; rw [if_neg hvs, if_pos rfl]; simp [getB]
  · rw [if_neg e]
    split
    · rfl
    · rename_i hn
      have e' : ¬ (v = u) := fun h => e h.symm
      simp only [getB, if_neg e']
      exact (Classical.byContradiction fun hb => hn (h.bound.1 (fun e => hb e.symm)))

theorem unb_bind {V : List Int} {s : List B} (h : OkB s) {v : Int} {y : List C} (hv : getB s v = []) (hy : y ≠ []) (hm : v ∈ V) : unb V (s ++ [⟨v, y⟩]) < unb V s := by
  unfold unb
  refine filter_lt hm (by simp [hv]) (by rw [getB_bind h hv, if_pos rfl]; cases y with | nil => exact absurd rfl hy | cons _ _ => rfl) (fun x _ hx => ?_)
  rw [getB_bind h hv] at hx
  split at hx
  · rename_i e; rw [e, hv]; rfl
  · exact hx

theorem inV_bind {V : List Int} {s : List B} {ps qs : List (List C × List C)} (h : OkB s) (hV : InV V s ps) {v : Int} {y : List C} (hv : getB s v = []) (hy : ∀ u, varIn y u → u ∈ V) (hq : ∀ p ∈ qs, p ∈ ps) : InV V (s ++ [⟨v, y⟩]) qs := by
  refine ⟨fun u w hw => ?_, fun p hp => hV.2 p (hq p hp)⟩
  rw [getB_bind h hv] at hw
  split at hw
  · exact hy w hw
  · exact hV.1 u w hw

theorem zip_mem {xs ys : List (List C)} {p : List C × List C} (h : p ∈ xs.zip ys) : p.1 ∈ xs ∧ p.2 ∈ ys := by
  obtain ⟨a, b⟩ := p
  exact ⟨(List.of_mem_zip h).1, (List.of_mem_zip h).2⟩

theorem varIn_flat {ks : List (List C)} {k : List C} (hk : k ∈ ks) {v : Int} (h : varIn k v) : varIn ks.flatten v := by
  obtain ⟨c, hc, h⟩ := h
  exact ⟨c, List.mem_flatten.2 ⟨k, hk, hc⟩, h⟩

theorem exp_split {s : List B} : ∀ {a b : List C} {m : Nat} {z : List C}, Exp s m (a ++ b) z → ∃ m1 m2 z1 z2, Exp s m1 a z1 ∧ Exp s m2 b z2 ∧ z = z1 ++ z2
  | [], b, m, z, h => ⟨0, m, [], z, .nil, h, rfl⟩
  | c :: a, b, _, _, h => by
      rw [List.cons_append] at h
      cases h with
      | keep hc h =>
        obtain ⟨m1, m2, z1, z2, h1, h2, rfl⟩ := exp_split h
        exact ⟨_, m2, c :: z1, z2, .keep hc h1, h2, rfl⟩
      | sub h1 h2 h3 h =>
        obtain ⟨m1, m2, z1, z2, k1, k2, rfl⟩ := exp_split h
        exact ⟨_, m2, _, z2, .sub h1 h2 h3 k1, k2, by simp⟩

theorem zip_fst {xs ys : List (List C)} (h : xs.length = ys.length) : (xs.zip ys).map (·.1) = xs := by
  have := List.map_fst_zip (l₁ := xs) (l₂ := ys) (by omega)
  exact this

theorem uni_ex (V : List Int) : ∀ (U N : Nat) (s : List B) (ps : List (List C × List C)) (m : Nat) (z : List C), OkB s → Prs ps → InV V s ps → (∀ v ∈ s.map (·.v), v ∈ V) → unb V s = U → Exp s m (ps.map (·.1)).flatten z → z.length = N → ∃ n res sf, Uni n s ps res sf := by
  intro U
  induction U using Nat.strongRecOn with
  | _ U ihU =>
    intro N
    induction N using Nat.strongRecOn with
    | _ N ihN =>
      intro s ps m z hs hp hV hsv hU hE hN
      cases ps with
      | nil => exact ⟨0, _, _, .done⟩
      | cons p r =>
        obtain ⟨a, b⟩ := p
        have hpab := hp (a, b) (by simp)
        have hpr : Prs r := fun q hq => hp q (by simp [hq])
        obtain ⟨n1, x, hx, hxt⟩ := now_all hs hpab.1
        obtain ⟨n2, y, hy, hyt⟩ := now_all hs hpab.2
        have hxV : ∀ v, varIn x v → v ∈ V := Now.inV hV hx (fun v hv => hV.2 (a, b) (by simp) v (.inl hv))
        have hyV : ∀ v, varIn y v → v ∈ V := Now.inV hV hy (fun v hv => hV.2 (a, b) (by simp) v (.inr hv))
        obtain ⟨c, xs, rfl, hxl, _, hco, hxs⟩ := hxt.kids
        obtain ⟨d, ys, rfl, hyl, _, hdo, hys⟩ := hyt.kids
        obtain ⟨c', r', e1, hcb⟩ := hx.head
        simp only [List.cons.injEq] at e1
        obtain ⟨rfl, rfl⟩ := e1
        obtain ⟨d', r', e1, hdb⟩ := hy.head
        simp only [List.cons.injEq] at e1
        obtain ⟨rfl, rfl⟩ := e1
        -- what binds a variable goes on with fewer that are not
        have bnd : ∀ (v : Int) (y : List C), getB s v = [] → Trm y → ¬ Reach s y v → v ∈ V → (∀ u, varIn y u → u ∈ V) → ∃ n res sf, Uni n (s ++ [⟨v, y⟩]) r res sf := fun v y hv hyt hr hvV hyV => by
          have hs' := hs.bind hv hyt hr
          obtain ⟨ρ, hρ⟩ := hs'.rank
          obtain ⟨m', z', hE'⟩ := exp_all hρ (r.map (·.1)).flatten
          exact ihU _ (by rw [← hU]; exact unb_bind hs hv hyt.ne hvV) _ (s ++ [⟨v, y⟩]) r m' z' hs' hpr (inV_bind hs hV hv hyV (fun q hq => by simp [hq])) (fun u hu => by
            rw [List.map_append, List.mem_append] at hu
            rcases hu with hu | hu
            · exact hsv u hu
            · simp at hu; rw [hu]; exact hvV) rfl hE' rfl
        by_cases ecd : c = d
        · subst ecd
          have hl : xs.length = ys.length := by omega
          rw [List.map_cons, List.flatten_cons] at hE
          obtain ⟨m1, m2, z1, z2, hE1, hE2, rfl⟩ := exp_split hE
          obtain ⟨ρ, hρ⟩ := hs.rank
          obtain ⟨m3, z3, hE3⟩ := exp_all hρ xs.flatten
          obtain ⟨m4, hE4⟩ := hx.exp hs hpab.1 (Exp.keep hcb hE3)
          obtain ⟨rfl, _⟩ := hE1.det hE4
          obtain ⟨n, res, sf, hu⟩ := ihN (z3 ++ z2).length (by rw [← hN]; simp) s (xs.zip ys ++ r) (m3 + m2) (z3 ++ z2) hs (fun q hq => by
            rcases List.mem_append.1 hq with hq | hq
            · exact ⟨hxs _ (zip_mem hq).1, hys _ (zip_mem hq).2⟩
            · exact hpr q hq) ⟨hV.1, fun q hq v hv => by
            rcases List.mem_append.1 hq with hq | hq
            · rcases hv with hv | hv
              · exact hxV v (varIn_cons.2 (.inr (varIn_flat (zip_mem hq).1 hv)))
              · exact hyV v (varIn_cons.2 (.inr (varIn_flat (zip_mem hq).2 hv)))
            · exact hV.2 q (by simp [hq]) v hv⟩ hsv hU (by
            rw [List.map_append, List.flatten_append, zip_fst hl]
            exact hE3.append hE2) rfl
          exact ⟨_, res, sf, .args hx hy hxs hys hxl hyl hu⟩
        · by_cases hc1 : c.k = 1
          · have hx0 := hxt.var hc1
            rw [hx0] at hx
            have hne : (d :: ys.flatten).head? ≠ some c := by simp; exact fun e => ecd e.symm
            by_cases hr : Reach s (d :: ys.flatten) c.n
            · exact ⟨1, _, _, .ringL hx hy hc1 hne hr⟩
            · obtain ⟨n, res, sf, hu⟩ := bnd c.n (d :: ys.flatten) (hcb hc1) hyt hr (hxV c.n (varIn_cons.2 (.inl ⟨hc1, rfl⟩))) hyV
              exact ⟨_, res, sf, .bindL hx hy hc1 hne hr hu⟩
          · by_cases hd1 : d.k = 1
            · have hy0 := hyt.var hd1
              rw [hy0] at hy
              by_cases hr : Reach s (c :: xs.flatten) d.n
              · exact ⟨1, _, _, .ringR hx hy hd1 hc1 hr⟩
              · obtain ⟨n, res, sf, hu⟩ := bnd d.n (c :: xs.flatten) (hdb hd1) hxt hr (hyV d.n (varIn_cons.2 (.inl ⟨hd1, rfl⟩))) hxV
                exact ⟨_, res, sf, .bindR hx hy hd1 hc1 hr hu⟩
            · exact ⟨1, _, _, .apart hx hy hc1 hd1 ecd⟩

/-- All variables of places. -/
def varsOf (t : List C) : List Int := t.map (·.n)
theorem mem_varsOf {t : List C} {v : Int} (h : varIn t v) : v ∈ varsOf t := by
  obtain ⟨c, hc, _, rfl⟩ := h
  exact List.mem_map.2 ⟨c, hc, rfl⟩

theorem uni_all {s : List B} {ps : List (List C × List C)} (hs : OkB s) (hp : Prs ps) : ∃ n res sf, Uni n s ps res sf := by
  obtain ⟨ρ, hρ⟩ := hs.rank
  obtain ⟨m, z, hE⟩ := exp_all hρ (ps.map (·.1)).flatten
  refine uni_ex ((s.map fun x => varsOf x.t).flatten ++ s.map (·.v) ++ (ps.map fun p => varsOf p.1 ++ varsOf p.2).flatten) _ _ s ps m z hs hp ⟨fun u v hv => ?_, fun p hp v hv => ?_⟩ (fun v hv => by simp only [List.mem_append]; exact .inl (.inr hv)) rfl hE rfl
  · obtain ⟨x, hx, _, e⟩ := getB_mem (ne_of_varIn hv)
    rw [← e] at hv
    simp only [List.mem_append]
    exact .inl (.inl (List.mem_flatten.2 ⟨_, List.mem_map.2 ⟨x, hx, rfl⟩, mem_varsOf hv⟩))
  · simp only [List.mem_append]
    refine .inr (List.mem_flatten.2 ⟨_, List.mem_map.2 ⟨p, hp, rfl⟩, ?_⟩)
    rcases hv with hv | hv
    · exact List.mem_append.2 (.inl (mem_varsOf hv))
    · exact List.mem_append.2 (.inr (mem_varsOf hv))

/-- What comes of it is ok bindings, behind those that there were. -/
theorem Uni.ok {n : Nat} {s sf : List B} {ps : List (List C × List C)} {res : Option (List B)} (h : Uni n s ps res sf) : OkB s → Prs ps → OkB sf ∧ (∃ r, sf = s ++ r) ∧ ∀ s', res = some s' → s' = sf := by
  induction h with
  | done => intro hs _; exact ⟨hs, ⟨[], by simp⟩, fun s' e => by cases e; rfl⟩
  | args _ _ hxs hys _ _ _ ih =>
    intro hs hp
    refine ih hs (fun q hq => ?_)
    rcases List.mem_append.1 hq with hq | hq
    · exact ⟨hxs _ (zip_mem hq).1, hys _ (zip_mem hq).2⟩
    · exact hp q (by simp [hq])
  | @bindL n n1 n2 s sf a b y r c res hx hy hc hne hr _ ih =>
    intro hs hp
    have hyt := hy.trm hs (hp (a, b) (by simp)).2
    obtain ⟨c', r', e1, hcb⟩ := hx.head
    simp only [List.cons.injEq] at e1
    obtain ⟨rfl, rfl⟩ := e1
    obtain ⟨h1, ⟨q, rfl⟩, h3⟩ := ih (hs.bind (hcb hc) hyt hr) (fun q hq => hp q (by simp [hq]))
    exact ⟨h1, ⟨_, List.append_assoc _ _ _⟩, h3⟩
  | ringL => intro hs _; exact ⟨hs, ⟨[], by simp⟩, fun s' e => by cases e⟩
  | @bindR n n1 n2 s sf a b x r c d res hx hy hc hd hr _ ih =>
    intro hs hp
    have hxt := hx.trm hs (hp (a, b) (by simp)).1
    obtain ⟨c', r', e1, hcb⟩ := hy.head
    simp only [List.cons.injEq] at e1
    obtain ⟨rfl, rfl⟩ := e1
    obtain ⟨h1, ⟨q, rfl⟩, h3⟩ := ih (hs.bind (hcb hc) hxt hr) (fun q hq => hp q (by simp [hq]))
    exact ⟨h1, ⟨_, List.append_assoc _ _ _⟩, h3⟩
  | ringR => intro hs _; exact ⟨hs, ⟨[], by simp⟩, fun s' e => by cases e⟩
  | apart => intro hs _; exact ⟨hs, ⟨[], by simp⟩, fun s' e => by cases e⟩
end Go.Proofs.YtonpahhcfgdeoaaDoor

/- The plain mathematics of what can be come to from a term's variables, as the specification looks for it. -/
namespace Go.Proofs.YtonpahhcfgdeoaaDoor
set_option linter.unusedVariables false
set_option linter.unusedSimpArgs false

theorem mem_addVV {acc : List Int} {c : C} {v : Int} : v ∈ addV acc c ↔ v ∈ acc ∨ (c.k = 1 ∧ c.n = v) := by
  unfold addV
  by_cases h : c.k = 1
  · rw [if_pos h]
    by_cases hm : c.n ∈ acc
    · rw [if_pos hm]
      exact ⟨.inl, fun h' => h'.elim id (fun h' => h'.2 ▸ hm)⟩
    · rw [if_neg hm]
      simp [h]
      constructor
      · rintro (h' | rfl)
        · exact .inl h'
        · exact .inr rfl
      · rintro (h' | rfl)
        · exact .inl h'
        · exact .inr rfl
  · rw [if_neg h]
    simp [h]
theorem mem_foldV : ∀ (t : List C) (acc : List Int) (v : Int), v ∈ t.foldl addV acc ↔ v ∈ acc ∨ varIn t v
  | [], acc, v => by simp [varIn_nil]
  | c :: t, acc, v => by
      rw [List.foldl_cons, mem_foldV t, mem_addVV, varIn_cons]
      exact or_assoc
theorem mem_freeV {t : List C} {v : Int} : v ∈ freeOf t ↔ varIn t v := by
  unfold freeOf
  rw [mem_foldV]
  simp

theorem nodup_len : ∀ {l V : List Int}, l.Nodup → (∀ x ∈ l, x ∈ V) → l.length ≤ V.length
  | [], V, _, _ => Nat.zero_le _
  | x :: l, V, hn, hs => by
      have hx := hs x (by simp)
      have hn' := List.nodup_cons.1 hn
      have ih := nodup_len (l := l) (V := V.erase x) hn'.2 (fun y hy => (List.mem_erase_of_ne (fun (e : y = x) => hn'.1 (e ▸ hy))).2 (hs y (by simp [hy])))
      have := List.length_erase_of_mem hx
      have := List.length_pos_of_mem hx
      simp only [List.length_cons]
      omega

/-- All numbers at places of a term and of bindings. -/
def allV (s : List B) (t : List C) : List Int := varsOf t ++ (s.map fun x => varsOf x.t).flatten
theorem allV_get {s : List B} {t : List C} {u v : Int} (h : varIn (getB s u) v) : v ∈ allV s t := by
  obtain ⟨x, hx, _, e⟩ := getB_mem (ne_of_varIn h)
  rw [← e] at h
  exact List.mem_append.2 (.inr (List.mem_flatten.2 ⟨_, List.mem_map.2 ⟨x, hx, rfl⟩, mem_varsOf h⟩))
theorem allV_len (s : List B) (t : List C) : (allV s t).length = t.length + (s.map fun x => x.t.length).sum := by
  unfold allV
  rw [List.length_append, List.length_flatten, List.map_map]
  simp [varsOf, Function.comp_def]

/-- How far the search has come: the first k have been looked at, and of the next one those in 'm'. -/
structure Lead (s : List B) (t : List C) (out : List Int) (k : Nat) : Prop where
  sound : ∀ v ∈ out, Reach s t v
  start : ∀ v, varIn t v → v ∈ out
  step : ∀ j, (h : j < out.length) → j < k → ∀ v, varIn (getB s out[j]) v → v ∈ out
  nodup : out.Nodup
  kle : k ≤ out.length

theorem Lead.begin (s : List B) (t : List C) : Lead s t (freeOf t) 0 :=
  ⟨fun v hv => .here (mem_freeV.1 hv), fun v hv => mem_freeV.2 hv, fun j _ h => absurd h (Nat.not_lt_zero _), freeOf_nodup t, Nat.zero_le _⟩

theorem reach_all {s : List B} {t : List C} {v : Int} (h : Reach s t v) : v ∈ allV s t := by
  cases h with
  | here h => exact List.mem_append.2 (.inl (mem_varsOf h))
  | step _ h => exact allV_get h

theorem Lead.len {s : List B} {t : List C} {out : List Int} {k : Nat} (h : Lead s t out k) : out.length ≤ (allV s t).length := nodup_len h.nodup (fun v hv => reach_all (h.sound v hv))

/-- One more is found. -/
theorem Lead.add {s : List B} {t : List C} {out : List Int} {k : Nat} (h : Lead s t out k) (hk : k < out.length) {v : Int} (hv : varIn (getB s out[k]) v) (hn : v ∉ out) : Lead s t (out ++ [v]) k := by
  refine ⟨fun u hu => ?_, fun u hu => List.mem_append.2 (.inl (h.start u hu)), fun j hj hjk u hu => ?_, ?_, by simp; omega⟩
  · rcases List.mem_append.1 hu with hu | hu
    · exact h.sound u hu
    · simp at hu; subst hu; exact .step (h.sound _ (List.getElem_mem hk)) hv
  · have hj' : j < out.length := by omega
    rw [List.getElem_append_left hj'] at hu
    exact List.mem_append.2 (.inl (h.step j hj' hjk u hu))
  · rw [List.nodup_append]
    exact ⟨h.nodup, by simp, fun a ha b hb => by simp at hb; subst hb; intro e; subst e; exact hn ha⟩

/-- All of one have been looked at. -/
theorem Lead.next {s : List B} {t : List C} {out : List Int} {k : Nat} (h : Lead s t out k) (hk : k < out.length) (ha : ∀ v, varIn (getB s out[k]) v → v ∈ out) : Lead s t out (k + 1) := by
  refine ⟨h.sound, h.start, fun j hj hjk u hu => ?_, h.nodup, hk⟩
  by_cases e : j = k
  · subst e; exact ha u hu
  · exact h.step j hj (by omega) u hu

theorem Lead.done {s : List B} {t : List C} {out : List Int} (h : Lead s t out out.length) (v : Int) : v ∈ out ↔ Reach s t v := by
  refine ⟨h.sound v, fun hr => ?_⟩
  induction hr with
  | here h1 => exact h.start _ h1
  | step _ h2 ih =>
    obtain ⟨j, hj, rfl⟩ := List.getElem_of_mem ih
    exact h.step j hj hj _ h2

/-- While the things that one leads to are looked at. -/
def MoreAt (s : List B) (t : List C) (k : Nat) (u : Int) (mo : List Int) (j : Nat) (out : List Int) : Prop :=
  Lead s t out k ∧ (∃ h : k < out.length, out[k] = u) ∧ (∀ i, (h : i < mo.length) → i < j → mo[i] ∈ out)

theorem MoreAt.start {s : List B} {t : List C} {k : Nat} {out : List Int} (h : Lead s t out k) (hk : k < out.length) : MoreAt s t k out[k] (freeOf (getB s out[k])) 0 out :=
  ⟨h, ⟨hk, rfl⟩, fun i _ h => absurd h (Nat.not_lt_zero _)⟩
theorem MoreAt.old {s : List B} {t : List C} {k j : Nat} {u : Int} {mo out : List Int} (h : MoreAt s t k u mo j out) (hj : j < mo.length) (hm : mo[j] ∈ out) : MoreAt s t k u mo (j + 1) out := by
  refine ⟨h.1, h.2.1, fun i hi hij => ?_⟩
  by_cases e : i = j
  · subst e; exact hm
  · exact h.2.2 i hi (by omega)
theorem MoreAt.new {s : List B} {t : List C} {k j : Nat} {u : Int} {out : List Int} (h : MoreAt s t k u (freeOf (getB s u)) j out) (hj : j < (freeOf (getB s u)).length) (hm : (freeOf (getB s u))[j] ∉ out) : MoreAt s t k u (freeOf (getB s u)) (j + 1) (out ++ [(freeOf (getB s u))[j]]) := by
  obtain ⟨h1, ⟨hk, e⟩, h3⟩ := h
  have hv : varIn (getB s out[k]) (freeOf (getB s u))[j] := by rw [e]; exact mem_freeV.1 (List.getElem_mem hj)
  refine ⟨h1.add hk hv hm, ⟨by simp; omega, by rw [List.getElem_append_left hk]; exact e⟩, fun i hi hij => ?_⟩
  by_cases e' : i = j
  · subst e'; simp
  · exact List.mem_append.2 (.inl (h3 i hi (by omega)))
theorem MoreAt.done {s : List B} {t : List C} {k : Nat} {u : Int} {out : List Int} (h : MoreAt s t k u (freeOf (getB s u)) (freeOf (getB s u)).length out) : Lead s t out (k + 1) := by
  obtain ⟨h1, ⟨hk, e⟩, h3⟩ := h
  refine h1.next hk (fun v hv => ?_)
  rw [e] at hv
  obtain ⟨i, hi, rfl⟩ := List.getElem_of_mem (mem_freeV.2 hv)
  exact h3 i hi hi
end Go.Proofs.YtonpahhcfgdeoaaDoor

/- The walks of the laws' helpers over bindings: szSubBind(S), toSubBind(S), eqSubBind(S). -/
namespace Go.Proofs.YtonpahhcfgdeoaaDoor
open Go.RowKit
set_option linter.unusedVariables false
set_option linter.unusedSimpArgs false

theorem Row.alloc {w : World} {ao : Option Addr} {t : List C} (h : Row w ao t) (o : Obj) : Row (w.alloc o) ao t := h.below (cell_below _ _)

end Go.Proofs.YtonpahhcfgdeoaaDoor

/- The walks of toSubBindS, eqSubBind(S). -/
namespace Go.Proofs.YtonpahhcfgdeoaaDoor
open Go.RowKit
set_option linter.unusedVariables false
set_option linter.unusedSimpArgs false

theorem Tryd.infoSub : (Tryd.prog.info? 110).map (fun i => (i.zero, i.size, i.bytes)) = some (some (.agg #[.int .i64 0, .slice none 0 0]), 2, 32) := by kernel_rfl

theorem set2_take (xs : List Value) (k : Nat) (a b : Value) (h : k * 2 + 2 ≤ xs.length) :
    ((xs.set (k * 2) a).set (k * 2 + 1) b).take ((k + 1) * 2) = xs.take (k * 2) ++ [a, b] := by
  apply List.ext_getElem?
  intro i
  rw [List.getElem?_take]
  by_cases h1 : i < k * 2
  · rw [if_pos (by omega), List.getElem?_append_left (by simp; omega), List.getElem?_set_ne (by omega), List.getElem?_set_ne (by omega), List.getElem?_take, if_pos h1]
  · rw [List.getElem?_append_right (by simp; omega)]
    have hl : (xs.take (k * 2)).length = k * 2 := by simp; omega
    rw [hl]
    by_cases e0 : i = k * 2
    · subst e0; rw [if_pos (by omega), List.getElem?_set_ne (by omega), List.getElem?_set_self (by omega)]; simp
    by_cases e1 : i = k * 2 + 1
    · subst e1; rw [if_pos (by omega), List.getElem?_set_self (by simp; omega)]; simp [show k * 2 + 1 - k * 2 = 1 by omega]
    · rw [if_neg (by omega), List.getElem?_eq_none (by simp; omega)]

/-- How far toSubBindS has come. -/
def ToB (w : World) (s : List B) (k : Nat) (wr : World) : Prop := ∃ xs us, wr.ownsRow w.heap.size 110 2 (.slice (some ⟨w.heap.size, 0, none⟩) s.length s.length) s.length xs ∧ us.length = k ∧ xs.take (k * 2) = flatB (s.take k) us ∧
    (∀ i, (h : i < s.length) → (h' : i < us.length) → OwnC wr w.heap.size us[i] s[i].t) ∧ (us.filterMap Value.ownBlock).Nodup ∧ (∀ u ∈ us, ∀ j, u.ownBlock = some j → w.heap.size < j ∧ j < wr.heap.size) ∧ Below w.heap.size w wr

theorem toB_round {w wr w1 : World} {s : List B} {k g : Nat} (hk : k < s.length) (hT : ToB w s k wr) (hb1 : Below wr.heap.size wr w1) (hgl : g < w1.heap.size)
    (ho : w1.ownsRow wr.heap.size 55 3 (.slice (some ⟨g, 0, none⟩) s[k].t.length s[k].t.length) s[k].t.length (flat s[k].t)) :
    (∃ a b, w1.cell? ⟨w.heap.size, k * 2, none⟩ = some a ∧ w1.cell? ⟨w.heap.size, k * 2 + 1, none⟩ = some b) ∧ (w1.frozen? ⟨w.heap.size, k * 2, none⟩ = false ∧ w1.frozen? ⟨w.heap.size, k * 2 + 1, none⟩ = false) ∧
    ToB w s (k + 1) ((w1.setCell ⟨w.heap.size, k * 2, none⟩ (.int .i64 s[k].v)).setCell ⟨w.heap.size, k * 2 + 1, none⟩ (.slice (some ⟨g, 0, none⟩) s[k].t.length s[k].t.length)) := by
  obtain ⟨xs, us, h1, h2, h3, h4, h5, h6, h7⟩ := hT
  have hl : xs.length = s.length * 2 := h1.1
  have hgw : wr.heap.size ≤ g := (ho.lt g rfl).1
  have hsz : w.heap.size < wr.heap.size := (h1.lt _ rfl).2
  have o1 := own_below h1 hb1
  have s1 := o1.stored (k * 2) (.int .i64 s[k].v)
  have s2 := s1.1.stored (k * 2 + 1) (.slice (some ⟨g, 0, none⟩) s[k].t.length s[k].t.length)
  have hblk : ∀ j, j ≠ w.heap.size → ((w1.setCell ⟨w.heap.size, k * 2, none⟩ (.int .i64 s[k].v)).setCell ⟨w.heap.size, k * 2 + 1, none⟩ (.slice (some ⟨g, 0, none⟩) s[k].t.length s[k].t.length)).heap[j]? = w1.heap[j]? := fun j hj => by
    rw [Below.heap_setCell _ _ _ _ hj, Below.heap_setCell _ _ _ _ hj]
  refine ⟨⟨_, _, (o1.cellAt (k * 2) (by omega)).trans (List.getElem?_eq_getElem (by omega)), (o1.cellAt (k * 2 + 1) (by omega)).trans (List.getElem?_eq_getElem (by omega))⟩, ⟨o1.frozenAt _, o1.frozenAt _⟩, ?_⟩
  refine ⟨_, us ++ [.slice (some ⟨g, 0, none⟩) s[k].t.length s[k].t.length], s2.1, by simp [h2], ?_, fun i hi hi' => ?_, ?_, fun u hu j e => ?_, ?_⟩
  · rw [set2_take xs k _ _ (by omega), h3, List.take_succ_eq_append_getElem hk, flatB_append _ _ _ _ (by simp; omega)]
    rfl
  · by_cases e : i < us.length
    · rw [List.getElem_append_left e]
      refine own_block (own_below (h4 i hi e) hb1) (fun j ej => hblk j ?_)
      have := h6 _ (List.getElem_mem e) j ej
      omega
    · obtain rfl : i = k := by simp at hi'; omega
      rw [List.getElem_append_right (by omega)]
      simp only [h2, Nat.sub_self, List.getElem_cons_zero]
      refine own_lo (own_block ho (fun j ej => hblk j ?_)) (fun j ej => ?_)
      · have : g = j := by simpa [Value.ownBlock] using ej
        omega
      · have : g = j := by simpa [Value.ownBlock] using ej
        omega
  · rw [List.filterMap_append, List.nodup_append]
    refine ⟨h5, by simp [Value.ownBlock], fun a ha b hb => ?_⟩
    obtain ⟨u, hu, e⟩ := List.mem_filterMap.1 ha
    have := h6 u hu a e
    simp [Value.ownBlock] at hb
    omega
  · have hs2 : ((w1.setCell ⟨w.heap.size, k * 2, none⟩ (.int .i64 s[k].v)).setCell ⟨w.heap.size, k * 2 + 1, none⟩ (.slice (some ⟨g, 0, none⟩) s[k].t.length s[k].t.length)).heap.size = w1.heap.size := by simp
    rw [hs2]
    have := hb1.size
    rcases List.mem_append.1 hu with hu | hu
    · have := h6 u hu j e
      omega
    · simp at hu
      subst hu
      have : g = j := by simpa [Value.ownBlock] using e
      omega
  · exact ((h7.trans (hb1.mono (by omega))).setCell (p := ⟨w.heap.size, _, none⟩) (Nat.le_refl _) _).setCell (p := ⟨w.heap.size, _, none⟩) (Nat.le_refl _) _

theorem toB_end {w wr : World} {s : List B} (hT : ToB w s s.length wr) : OwnB wr w.heap.size wr.heap.size (.slice (some ⟨w.heap.size, 0, none⟩) s.length s.length) s ∧ Below w.heap.size w wr := by
  obtain ⟨xs, us, h1, h2, h3, h4, h5, h6, h7⟩ := hT
  have hl := h1.1
  have hlt : w.heap.size < wr.heap.size := (h1.lt _ rfl).2
  rw [List.take_of_length_le (by omega), List.take_of_length_le (by omega)] at h3
  refine ⟨⟨us, h2, by rw [← h3]; exact h1, h4, h5, fun u hu k e => (h6 u hu k e).2, fun k e => ?_⟩, h7⟩
  have : w.heap.size = k := by simpa [Value.ownBlock] using e
  omega

end Go.Proofs.YtonpahhcfgdeoaaDoor
