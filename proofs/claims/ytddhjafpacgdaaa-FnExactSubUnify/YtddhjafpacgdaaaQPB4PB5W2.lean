import Derived.Test.YtddhjafpacgdaaaQPB2PB3
import Derived.Test.YtddhjafpacgdaaaQW9W11W12
import Derived.Test.YtddhjafpacgdaaaQMem2Mem3W1
import Derived.Test.YtddhjafpacgdaaaQPlainMemOpen
/- To make two terms the same comes to an end. -/
namespace Go.Proofs.Ytddhjafpacgdaaa
set_option linter.unusedVariables false
set_option linter.unusedSimpArgs false

/-- All pairs are of terms. -/
def Prs (ps : List (List C × List C)) : Prop := ∀ p ∈ ps, Trm p.1 ∧ Trm p.2

/-- All variables are among these. -/
def InV (V : List Int) (s : List B) (ps : List (List C × List C)) : Prop :=
  (∀ u v, varIn (getB s u) v → v ∈ V) ∧ ∀ p ∈ ps, ∀ v, varIn p.1 v ∨ varIn p.2 v → v ∈ V

theorem Now.inV {V : List Int} {s : List B} {ps : List (List C × List C)} (hV : InV V s ps) {n : Nat} {t x : List C} (h : Now s n t x) : (∀ v, varIn t v → v ∈ V) → ∀ v, varIn x v → v ∈ V := by
  induction h with
  | stop => exact fun h => h
  | on _ _ _ ih => exact fun _ => ih (fun v hv => hV.1 _ v hv)

def unb (V : List Int) (s : List B) : Nat := (V.filter fun v => (getB s v).isEmpty).length

theorem filter_le {α : Type} {p q : α → Bool} : ∀ {l : List α}, (∀ x ∈ l, p x = true → q x = true) → (l.filter p).length ≤ (l.filter q).length
  | [], _ => Nat.le_refl _
  | x :: l, h => by
      have ih := filter_le (p := p) (q := q) (l := l) (fun y hy => h y (by simp [hy]))
      have hx := h x (by simp)
      rw [List.filter_cons, List.filter_cons]
      cases hp : p x with
      | true => rw [hx hp]; simp; exact ih
      | false => rw [if_neg (by simp)]; split
                 · rw [List.length_cons]; omega
                 · omega

theorem filter_lt {α : Type} {p q : α → Bool} : ∀ {l : List α} {y : α}, y ∈ l → q y = true → p y = false → (∀ x ∈ l, p x = true → q x = true) → (l.filter p).length < (l.filter q).length
  | x :: l, y, hy, hq, hp, h => by
      rw [List.filter_cons, List.filter_cons]
      rcases List.mem_cons.1 hy with rfl | hy
      · rw [hq, hp]
        have := filter_le (p := p) (q := q) (l := l) (fun y hy => h y (by simp [hy]))
        simp; omega
      · have ih := filter_lt hy hq hp (fun y hy => h y (by simp [hy]))
        have hx := h x (by simp)
        cases hpx : p x with
        | true => rw [hx hpx]; simp; exact ih
        | false =>
          rw [if_neg (by simp)]; split
          · rw [List.length_cons]; omega
          · omega

theorem getB_bind {s : List B} (h : OkB s) {v : Int} {y : List C} (hv : getB s v = []) (u : Int) : getB (s ++ [⟨v, y⟩]) u = if u = v then y else getB s u := by
  have hvs : v ∉ s.map (·.v) := fun hm => (h.bound.2 hm) hv
  rw [getB_append]
  by_cases e : u = v
  · subst e; rw [if_neg hvs, if_pos rfl]; simp [getB]
  · rw [if_neg e]
    split
    · rfl
    · rename_i hn
      have e' : ¬ (v = u) := fun h => e h.symm
      simp only [getB, if_neg e']
      exact (Classical.byContradiction fun hb => hn (h.bound.1 (fun e => hb e.symm)))

theorem unb_bind {V : List Int} {s : List B} (h : OkB s) {v : Int} {y : List C} (hv : getB s v = []) (hy : y ≠ []) (hm : v ∈ V) : unb V (s ++ [⟨v, y⟩]) < unb V s := by
  unfold unb
  refine filter_lt hm (by simp [hv]) (by rw [getB_bind h hv, if_pos rfl]; cases y with | nil => exact absurd rfl hy | cons _ _ => rfl) (fun x _ hx => ?_)
  rw [getB_bind h hv] at hx
  split at hx
  · rename_i e; rw [e, hv]; rfl
  · exact hx

theorem inV_bind {V : List Int} {s : List B} {ps qs : List (List C × List C)} (h : OkB s) (hV : InV V s ps) {v : Int} {y : List C} (hv : getB s v = []) (hy : ∀ u, varIn y u → u ∈ V) (hq : ∀ p ∈ qs, p ∈ ps) : InV V (s ++ [⟨v, y⟩]) qs := by
  refine ⟨fun u w hw => ?_, fun p hp => hV.2 p (hq p hp)⟩
  rw [getB_bind h hv] at hw
  split at hw
  · exact hy w hw
  · exact hV.1 u w hw

theorem zip_mem {xs ys : List (List C)} {p : List C × List C} (h : p ∈ xs.zip ys) : p.1 ∈ xs ∧ p.2 ∈ ys := by
  obtain ⟨a, b⟩ := p
  exact ⟨(List.of_mem_zip h).1, (List.of_mem_zip h).2⟩

theorem varIn_flat {ks : List (List C)} {k : List C} (hk : k ∈ ks) {v : Int} (h : varIn k v) : varIn ks.flatten v := by
  obtain ⟨c, hc, h⟩ := h
  exact ⟨c, List.mem_flatten.2 ⟨k, hk, hc⟩, h⟩

theorem exp_split {s : List B} : ∀ {a b : List C} {m : Nat} {z : List C}, Exp s m (a ++ b) z → ∃ m1 m2 z1 z2, Exp s m1 a z1 ∧ Exp s m2 b z2 ∧ z = z1 ++ z2
  | [], b, m, z, h => ⟨0, m, [], z, .nil, h, rfl⟩
  | c :: a, b, _, _, h => by
      rw [List.cons_append] at h
      cases h with
      | keep hc h =>
        obtain ⟨m1, m2, z1, z2, h1, h2, rfl⟩ := exp_split h
        exact ⟨_, m2, c :: z1, z2, .keep hc h1, h2, rfl⟩
      | sub h1 h2 h3 h =>
        obtain ⟨m1, m2, z1, z2, k1, k2, rfl⟩ := exp_split h
        exact ⟨_, m2, _, z2, .sub h1 h2 h3 k1, k2, by simp⟩

theorem zip_fst {xs ys : List (List C)} (h : xs.length = ys.length) : (xs.zip ys).map (·.1) = xs := by
  have := List.map_fst_zip (l₁ := xs) (l₂ := ys) (by omega)
  exact this

theorem uni_ex (V : List Int) : ∀ (U N : Nat) (s : List B) (ps : List (List C × List C)) (m : Nat) (z : List C), OkB s → Prs ps → InV V s ps → (∀ v ∈ s.map (·.v), v ∈ V) → unb V s = U → Exp s m (ps.map (·.1)).flatten z → z.length = N → ∃ n res sf, Uni n s ps res sf := by
  intro U
  induction U using Nat.strongRecOn with
  | _ U ihU =>
    intro N
    induction N using Nat.strongRecOn with
    | _ N ihN =>
      intro s ps m z hs hp hV hsv hU hE hN
      cases ps with
      | nil => exact ⟨0, _, _, .done⟩
      | cons p r =>
        obtain ⟨a, b⟩ := p
        have hpab := hp (a, b) (by simp)
        have hpr : Prs r := fun q hq => hp q (by simp [hq])
        obtain ⟨n1, x, hx, hxt⟩ := now_all hs hpab.1
        obtain ⟨n2, y, hy, hyt⟩ := now_all hs hpab.2
        have hxV : ∀ v, varIn x v → v ∈ V := Now.inV hV hx (fun v hv => hV.2 (a, b) (by simp) v (.inl hv))
        have hyV : ∀ v, varIn y v → v ∈ V := Now.inV hV hy (fun v hv => hV.2 (a, b) (by simp) v (.inr hv))
        obtain ⟨c, xs, rfl, hxl, _, hco, hxs⟩ := hxt.kids
        obtain ⟨d, ys, rfl, hyl, _, hdo, hys⟩ := hyt.kids
        obtain ⟨c', r', e1, hcb⟩ := hx.head
        simp only [List.cons.injEq] at e1
        obtain ⟨rfl, rfl⟩ := e1
        obtain ⟨d', r', e1, hdb⟩ := hy.head
        simp only [List.cons.injEq] at e1
        obtain ⟨rfl, rfl⟩ := e1
        -- what binds a variable goes on with fewer that are not
        have bnd : ∀ (v : Int) (y : List C), getB s v = [] → Trm y → ¬ Reach s y v → v ∈ V → (∀ u, varIn y u → u ∈ V) → ∃ n res sf, Uni n (s ++ [⟨v, y⟩]) r res sf := fun v y hv hyt hr hvV hyV => by
          have hs' := hs.bind hv hyt hr
          obtain ⟨ρ, hρ⟩ := hs'.rank
          obtain ⟨m', z', hE'⟩ := exp_all hρ (r.map (·.1)).flatten
          exact ihU _ (by rw [← hU]; exact unb_bind hs hv hyt.ne hvV) _ (s ++ [⟨v, y⟩]) r m' z' hs' hpr (inV_bind hs hV hv hyV (fun q hq => by simp [hq])) (fun u hu => by
            rw [List.map_append, List.mem_append] at hu
            rcases hu with hu | hu
            · exact hsv u hu
            · simp at hu; rw [hu]; exact hvV) rfl hE' rfl
        by_cases ecd : c = d
        · subst ecd
          have hl : xs.length = ys.length := by omega
          rw [List.map_cons, List.flatten_cons] at hE
          obtain ⟨m1, m2, z1, z2, hE1, hE2, rfl⟩ := exp_split hE
          obtain ⟨ρ, hρ⟩ := hs.rank
          obtain ⟨m3, z3, hE3⟩ := exp_all hρ xs.flatten
          obtain ⟨m4, hE4⟩ := hx.exp hs hpab.1 (Exp.keep hcb hE3)
          obtain ⟨rfl, _⟩ := hE1.det hE4
          obtain ⟨n, res, sf, hu⟩ := ihN (z3 ++ z2).length (by rw [← hN]; simp) s (xs.zip ys ++ r) (m3 + m2) (z3 ++ z2) hs (fun q hq => by
            rcases List.mem_append.1 hq with hq | hq
            · exact ⟨hxs _ (zip_mem hq).1, hys _ (zip_mem hq).2⟩
            · exact hpr q hq) ⟨hV.1, fun q hq v hv => by
            rcases List.mem_append.1 hq with hq | hq
            · rcases hv with hv | hv
              · exact hxV v (varIn_cons.2 (.inr (varIn_flat (zip_mem hq).1 hv)))
              · exact hyV v (varIn_cons.2 (.inr (varIn_flat (zip_mem hq).2 hv)))
            · exact hV.2 q (by simp [hq]) v hv⟩ hsv hU (by
            rw [List.map_append, List.flatten_append, zip_fst hl]
            exact hE3.append hE2) rfl
          exact ⟨_, res, sf, .args hx hy hxs hys hxl hyl hu⟩
        · by_cases hc1 : c.k = 1
          · have hx0 := hxt.var hc1
            rw [hx0] at hx
            have hne : (d :: ys.flatten).head? ≠ some c := by simp; exact fun e => ecd e.symm
            by_cases hr : Reach s (d :: ys.flatten) c.n
            · exact ⟨1, _, _, .ringL hx hy hc1 hne hr⟩
            · obtain ⟨n, res, sf, hu⟩ := bnd c.n (d :: ys.flatten) (hcb hc1) hyt hr (hxV c.n (varIn_cons.2 (.inl ⟨hc1, rfl⟩))) hyV
              exact ⟨_, res, sf, .bindL hx hy hc1 hne hr hu⟩
          · by_cases hd1 : d.k = 1
            · have hy0 := hyt.var hd1
              rw [hy0] at hy
              by_cases hr : Reach s (c :: xs.flatten) d.n
              · exact ⟨1, _, _, .ringR hx hy hd1 hc1 hr⟩
              · obtain ⟨n, res, sf, hu⟩ := bnd d.n (c :: xs.flatten) (hdb hd1) hxt hr (hyV d.n (varIn_cons.2 (.inl ⟨hd1, rfl⟩))) hxV
                exact ⟨_, res, sf, .bindR hx hy hd1 hc1 hr hu⟩
            · exact ⟨1, _, _, .apart hx hy hc1 hd1 ecd⟩

/-- All variables of places. -/
def varsOf (t : List C) : List Int := t.map (·.n)
theorem mem_varsOf {t : List C} {v : Int} (h : varIn t v) : v ∈ varsOf t := by
  obtain ⟨c, hc, _, rfl⟩ := h
  exact List.mem_map.2 ⟨c, hc, rfl⟩

theorem uni_all {s : List B} {ps : List (List C × List C)} (hs : OkB s) (hp : Prs ps) : ∃ n res sf, Uni n s ps res sf := by
  obtain ⟨ρ, hρ⟩ := hs.rank
  obtain ⟨m, z, hE⟩ := exp_all hρ (ps.map (·.1)).flatten
  refine uni_ex ((s.map fun x => varsOf x.t).flatten ++ s.map (·.v) ++ (ps.map fun p => varsOf p.1 ++ varsOf p.2).flatten) _ _ s ps m z hs hp ⟨fun u v hv => ?_, fun p hp v hv => ?_⟩ (fun v hv => by simp only [List.mem_append]; exact .inl (.inr hv)) rfl hE rfl
  · obtain ⟨x, hx, _, e⟩ := getB_mem (ne_of_varIn hv)
    rw [← e] at hv
    simp only [List.mem_append]
    exact .inl (.inl (List.mem_flatten.2 ⟨_, List.mem_map.2 ⟨x, hx, rfl⟩, mem_varsOf hv⟩))
  · simp only [List.mem_append]
    refine .inr (List.mem_flatten.2 ⟨_, List.mem_map.2 ⟨p, hp, rfl⟩, ?_⟩)
    rcases hv with hv | hv
    · exact List.mem_append.2 (.inl (mem_varsOf hv))
    · exact List.mem_append.2 (.inr (mem_varsOf hv))

/-- What comes of it is ok bindings, behind those that there were. -/
theorem Uni.ok {n : Nat} {s sf : List B} {ps : List (List C × List C)} {res : Option (List B)} (h : Uni n s ps res sf) : OkB s → Prs ps → OkB sf ∧ (∃ r, sf = s ++ r) ∧ ∀ s', res = some s' → s' = sf := by
  induction h with
  | done => intro hs _; exact ⟨hs, ⟨[], by simp⟩, fun s' e => by cases e; rfl⟩
  | args _ _ hxs hys _ _ _ ih =>
    intro hs hp
    refine ih hs (fun q hq => ?_)
    rcases List.mem_append.1 hq with hq | hq
    · exact ⟨hxs _ (zip_mem hq).1, hys _ (zip_mem hq).2⟩
    · exact hp q (by simp [hq])
  | @bindL n n1 n2 s sf a b y r c res hx hy hc hne hr _ ih =>
    intro hs hp
    have hyt := hy.trm hs (hp (a, b) (by simp)).2
    obtain ⟨c', r', e1, hcb⟩ := hx.head
    simp only [List.cons.injEq] at e1
    obtain ⟨rfl, rfl⟩ := e1
    obtain ⟨h1, ⟨q, rfl⟩, h3⟩ := ih (hs.bind (hcb hc) hyt hr) (fun q hq => hp q (by simp [hq]))
    exact ⟨h1, ⟨_, List.append_assoc _ _ _⟩, h3⟩
  | ringL => intro hs _; exact ⟨hs, ⟨[], by simp⟩, fun s' e => by cases e⟩
  | @bindR n n1 n2 s sf a b x r c d res hx hy hc hd hr _ ih =>
    intro hs hp
    have hxt := hx.trm hs (hp (a, b) (by simp)).1
    obtain ⟨c', r', e1, hcb⟩ := hy.head
    simp only [List.cons.injEq] at e1
    obtain ⟨rfl, rfl⟩ := e1
    obtain ⟨h1, ⟨q, rfl⟩, h3⟩ := ih (hs.bind (hcb hc) hxt hr) (fun q hq => hp q (by simp [hq]))
    exact ⟨h1, ⟨_, List.append_assoc _ _ _⟩, h3⟩
  | ringR => intro hs _; exact ⟨hs, ⟨[], by simp⟩, fun s' e => by cases e⟩
  | apart => intro hs _; exact ⟨hs, ⟨[], by simp⟩, fun s' e => by cases e⟩
end Go.Proofs.Ytddhjafpacgdaaa

/- The plain mathematics of what can be come to from a term's variables, as the specification looks for it. -/
namespace Go.Proofs.Ytddhjafpacgdaaa
set_option linter.unusedVariables false
set_option linter.unusedSimpArgs false

theorem mem_addVV {acc : List Int} {c : C} {v : Int} : v ∈ addV acc c ↔ v ∈ acc ∨ (c.k = 1 ∧ c.n = v) := by
  unfold addV
  by_cases h : c.k = 1
  · rw [if_pos h]
    by_cases hm : c.n ∈ acc
    · rw [if_pos hm]
      exact ⟨.inl, fun h' => h'.elim id (fun h' => h'.2 ▸ hm)⟩
    · rw [if_neg hm]
      simp [h]
      constructor
      · rintro (h' | rfl)
        · exact .inl h'
        · exact .inr rfl
      · rintro (h' | rfl)
        · exact .inl h'
        · exact .inr rfl
  · rw [if_neg h]
    simp [h]
theorem mem_foldV : ∀ (t : List C) (acc : List Int) (v : Int), v ∈ t.foldl addV acc ↔ v ∈ acc ∨ varIn t v
  | [], acc, v => by simp [varIn_nil]
  | c :: t, acc, v => by
      rw [List.foldl_cons, mem_foldV t, mem_addVV, varIn_cons]
      exact or_assoc
theorem mem_freeV {t : List C} {v : Int} : v ∈ freeOf t ↔ varIn t v := by
  unfold freeOf
  rw [mem_foldV]
  simp

theorem nodup_len : ∀ {l V : List Int}, l.Nodup → (∀ x ∈ l, x ∈ V) → l.length ≤ V.length
  | [], V, _, _ => Nat.zero_le _
  | x :: l, V, hn, hs => by
      have hx := hs x (by simp)
      have hn' := List.nodup_cons.1 hn
      have ih := nodup_len (l := l) (V := V.erase x) hn'.2 (fun y hy => (List.mem_erase_of_ne (fun (e : y = x) => hn'.1 (e ▸ hy))).2 (hs y (by simp [hy])))
      have := List.length_erase_of_mem hx
      have := List.length_pos_of_mem hx
      simp only [List.length_cons]
      omega

/-- All numbers at places of a term and of bindings. -/
def allV (s : List B) (t : List C) : List Int := varsOf t ++ (s.map fun x => varsOf x.t).flatten
theorem allV_get {s : List B} {t : List C} {u v : Int} (h : varIn (getB s u) v) : v ∈ allV s t := by
  obtain ⟨x, hx, _, e⟩ := getB_mem (ne_of_varIn h)
  rw [← e] at h
  exact List.mem_append.2 (.inr (List.mem_flatten.2 ⟨_, List.mem_map.2 ⟨x, hx, rfl⟩, mem_varsOf h⟩))
theorem allV_len (s : List B) (t : List C) : (allV s t).length = t.length + (s.map fun x => x.t.length).sum := by
  unfold allV
  rw [List.length_append, List.length_flatten, List.map_map]
  simp [varsOf, Function.comp_def]

/-- How far the search has come: the first k have been looked at, and of the next one those in 'm'. -/
structure Lead (s : List B) (t : List C) (out : List Int) (k : Nat) : Prop where
  sound : ∀ v ∈ out, Reach s t v
  start : ∀ v, varIn t v → v ∈ out
  step : ∀ j, (h : j < out.length) → j < k → ∀ v, varIn (getB s out[j]) v → v ∈ out
  nodup : out.Nodup
  kle : k ≤ out.length

theorem Lead.begin (s : List B) (t : List C) : Lead s t (freeOf t) 0 :=
  ⟨fun v hv => .here (mem_freeV.1 hv), fun v hv => mem_freeV.2 hv, fun j _ h => absurd h (Nat.not_lt_zero _), freeOf_nodup t, Nat.zero_le _⟩

theorem reach_all {s : List B} {t : List C} {v : Int} (h : Reach s t v) : v ∈ allV s t := by
  cases h with
  | here h => exact List.mem_append.2 (.inl (mem_varsOf h))
  | step _ h => exact allV_get h

theorem Lead.len {s : List B} {t : List C} {out : List Int} {k : Nat} (h : Lead s t out k) : out.length ≤ (allV s t).length := nodup_len h.nodup (fun v hv => reach_all (h.sound v hv))

/-- One more is found. -/
theorem Lead.add {s : List B} {t : List C} {out : List Int} {k : Nat} (h : Lead s t out k) (hk : k < out.length) {v : Int} (hv : varIn (getB s out[k]) v) (hn : v ∉ out) : Lead s t (out ++ [v]) k := by
  refine ⟨fun u hu => ?_, fun u hu => List.mem_append.2 (.inl (h.start u hu)), fun j hj hjk u hu => ?_, ?_, by simp; omega⟩
  · rcases List.mem_append.1 hu with hu | hu
    · exact h.sound u hu
    · simp at hu; subst hu; exact .step (h.sound _ (List.getElem_mem hk)) hv
  · have hj' : j < out.length := by omega
    rw [List.getElem_append_left hj'] at hu
    exact List.mem_append.2 (.inl (h.step j hj' hjk u hu))
  · rw [List.nodup_append]
    exact ⟨h.nodup, by simp, fun a ha b hb => by simp at hb; subst hb; intro e; subst e; exact hn ha⟩

/-- All of one have been looked at. -/
theorem Lead.next {s : List B} {t : List C} {out : List Int} {k : Nat} (h : Lead s t out k) (hk : k < out.length) (ha : ∀ v, varIn (getB s out[k]) v → v ∈ out) : Lead s t out (k + 1) := by
  refine ⟨h.sound, h.start, fun j hj hjk u hu => ?_, h.nodup, hk⟩
  by_cases e : j = k
  · subst e; exact ha u hu
  · exact h.step j hj (by omega) u hu

theorem Lead.done {s : List B} {t : List C} {out : List Int} (h : Lead s t out out.length) (v : Int) : v ∈ out ↔ Reach s t v := by
  refine ⟨h.sound v, fun hr => ?_⟩
  induction hr with
  | here h1 => exact h.start _ h1
  | step _ h2 ih =>
    obtain ⟨j, hj, rfl⟩ := List.getElem_of_mem ih
    exact h.step j hj hj _ h2

/-- While the things that one leads to are looked at. -/
def MoreAt (s : List B) (t : List C) (k : Nat) (u : Int) (mo : List Int) (j : Nat) (out : List Int) : Prop :=
  Lead s t out k ∧ (∃ h : k < out.length, out[k] = u) ∧ (∀ i, (h : i < mo.length) → i < j → mo[i] ∈ out)

theorem MoreAt.start {s : List B} {t : List C} {k : Nat} {out : List Int} (h : Lead s t out k) (hk : k < out.length) : MoreAt s t k out[k] (freeOf (getB s out[k])) 0 out :=
  ⟨h, ⟨hk, rfl⟩, fun i _ h => absurd h (Nat.not_lt_zero _)⟩
theorem MoreAt.old {s : List B} {t : List C} {k j : Nat} {u : Int} {mo out : List Int} (h : MoreAt s t k u mo j out) (hj : j < mo.length) (hm : mo[j] ∈ out) : MoreAt s t k u mo (j + 1) out := by
  refine ⟨h.1, h.2.1, fun i hi hij => ?_⟩
  by_cases e : i = j
  · subst e; exact hm
  · exact h.2.2 i hi (by omega)
theorem MoreAt.new {s : List B} {t : List C} {k j : Nat} {u : Int} {out : List Int} (h : MoreAt s t k u (freeOf (getB s u)) j out) (hj : j < (freeOf (getB s u)).length) (hm : (freeOf (getB s u))[j] ∉ out) : MoreAt s t k u (freeOf (getB s u)) (j + 1) (out ++ [(freeOf (getB s u))[j]]) := by
  obtain ⟨h1, ⟨hk, e⟩, h3⟩ := h
  have hv : varIn (getB s out[k]) (freeOf (getB s u))[j] := by rw [e]; exact mem_freeV.1 (List.getElem_mem hj)
  refine ⟨h1.add hk hv hm, ⟨by simp; omega, by rw [List.getElem_append_left hk]; exact e⟩, fun i hi hij => ?_⟩
  by_cases e' : i = j
  · subst e'; simp
  · exact List.mem_append.2 (.inl (h3 i hi (by omega)))
theorem MoreAt.done {s : List B} {t : List C} {k : Nat} {u : Int} {out : List Int} (h : MoreAt s t k u (freeOf (getB s u)) (freeOf (getB s u)).length out) : Lead s t out (k + 1) := by
  obtain ⟨h1, ⟨hk, e⟩, h3⟩ := h
  refine h1.next hk (fun v hv => ?_)
  rw [e] at hv
  obtain ⟨i, hi, rfl⟩ := List.getElem_of_mem (mem_freeV.2 hv)
  exact h3 i hi hi
end Go.Proofs.Ytddhjafpacgdaaa

/- The walk of the program's TrmOk. -/
namespace Go.Proofs.Ytddhjafpacgdaaa
open Go.RowKit
set_option linter.unusedVariables false
set_option linter.unusedSimpArgs false

theorem goes_step {t : List C} {k : Nat} (h : k < t.length) (x : Int) (hx : x ≠ 0) (ho : okC t[k] = true) : goes x (t.drop k) = goes (x + (ari t[k] - 1)) (t.drop (k + 1)) := by
  rw [List.drop_eq_getElem_cons h]; simp [goes, hx, ho]
theorem goes_zero {t : List C} {k : Nat} (h : k < t.length) : goes 0 (t.drop k) = false := by
  rw [List.drop_eq_getElem_cons h]; simp [goes]
theorem goes_bad {t : List C} {k : Nat} (h : k < t.length) (x : Int) (ho : okC t[k] = false) : goes x (t.drop k) = false := by
  rw [List.drop_eq_getElem_cons h]; simp [goes, ho]
theorem goes_end {t : List C} {k : Nat} (h : ¬ k < t.length) (x : Int) : goes x (t.drop k) = decide (x = 0) := by
  rw [List.drop_eq_nil_iff.2 (by omega)]; rfl

theorem trm_of {t : List C} (h : t.length ≤ 40) {b : Bool} (hg : goes 1 t = b) : trm t = b := by simp [trm, h, hg]
theorem trm_long {t : List C} (h : ¬ t.length ≤ 40) : trm t = false := by simp [trm, h]

set_option maxHeartbeats 1000000 in
theorem TrmOk_some (b off cap : Nat) (t : List C) (w : World) (hm : t.length ≤ maxLen) (hA : At w b off t) (hF : Fit t) :
    Calls Try.prog 32 #[.slice (some ⟨b, off, none⟩) t.length cap] w fun e w' => e = .returned (.bool (trm t)) ∧ Below w.heap.size w w' := by
  unfold maxLen at hm
  by_cases h40 : t.length ≤ 40
  · go_enter Try.func32, Try.ntmps32
    go_wp2
    go_loopw [3, 11] (fun m i wr => ∃ (k : Nat) (x : Int), k ≤ t.length ∧ i = .int .i64 k ∧ m = .int .i64 x ∧ 0 ≤ x ∧ x ≤ 1 + 3 * k ∧ goes 1 t = goes x (t.drop k) ∧ Below w.heap.size w wr) (fun _ i _ => t.length - (intOf i).toNat)
    case atStart => exact ⟨0, 1, Nat.zero_le _, rfl, rfl, by omega, by omega, rfl, Below.refl _ _⟩
    case round =>
      obtain ⟨k, x, hk, rfl, rfl, hx0, hx1, hg, hB⟩ := hrel
      have H : Hid (goes 1 t = goes x (t.drop k)) := hg
      clear hg
      by_cases hlt : k < t.length
      · obtain ⟨c0, c1, c2⟩ := (hA.below hB) k hlt
        have hs := hF.get k hlt
        obtain ⟨c, hc⟩ : ∃ c, c = t[k] := ⟨_, rfl⟩
        rw [← hc] at c0 c1 c2 hs
        have HC : Hid (c = t[k]) := hc
        clear hc
        by_cases hx : x = 0
        · have hxb : (x == 0) = true := by simpa using hx
          go_wp2
          go_ret
          refine ⟨ret_bool ?_, hB.alloc hB.size _⟩
          rw [trm_of h40 H.out, hx, goes_zero hlt]
        · have hxb : (x == 0) = false := by simpa using hx
          cases ho : okC c with
          | false =>
            go_wp2_with fail
            refine (cellOk_any c _ hs).mono ?_
            rintro e w1 ⟨rfl, hb1⟩
            go_wp2
            go_ret
            refine ⟨ret_bool ?_, (hB.alloc hB.size _).trans (hb1.mono (by have := hB.size; simp; omega))⟩
            rw [trm_of h40 H.out, goes_bad hlt x (by rw [← HC.out]; exact ho)]
          | true =>
            have hari := ari_ok ho
            go_wp2_with fail
            refine (cellOk_any c _ hs).mono ?_
            rintro e w1 ⟨rfl, hb1⟩
            have hq0 := hb1.cell (p := ⟨wr.heap.size, 0, none⟩) (by simp)
            have hq1 := hb1.cell (p := ⟨wr.heap.size, 1, none⟩) (by simp)
            have hq2 := hb1.cell (p := ⟨wr.heap.size, 2, none⟩) (by simp)
            go_wp2_with fail
            refine (cellArity_any c _).mono ?_
            rintro e w2 ⟨rfl, hb2⟩
            clear hq0 hq1 hq2 c0 c1 c2
            go_wp2
            go_roundw
            case rel =>
              refine ⟨k + 1, x + (ari c - 1), by omega, by go_num, by go_num, by omega, by omega, ?_, ((hB.alloc hB.size _).trans (hb1.mono (by have := hB.size; simp; omega))).trans (hb2.mono (by have := hB.size; have := hb1.size; simp at this; omega))⟩
              rw [H.out, goes_step hlt x hx (by rw [← HC.out]; exact ho), HC.out]
            case measure => simp [intOf]; omega
      · go_wp2
        go_ret
        refine ⟨ret_bool ?_, hB⟩
        rw [trm_of h40 H.out, goes_end hlt]
        rfl
  · go_enter Try.func32, Try.ntmps32
    go_wp2
    go_ret
    exact ⟨ret_bool (trm_long h40).symm, Below.refl _ _⟩

set_option maxHeartbeats 400000 in
theorem TrmOk_none (ao : Option Addr) (cap : Nat) (w : World) :
    Calls Try.prog 32 #[.slice ao 0 cap] w fun e w' => e = .returned (.bool false) ∧ Below w.heap.size w w' := by
  go_enter Try.func32, Try.ntmps32
  go_wp2
  refine wp_loop_rounds 1 ?_
  rw [rounds_succ]
  go_wp2
  go_ret
  exact ⟨rfl, Below.refl _ _⟩

/-- The program's TrmOk, of whatever places: whether they are a term. -/
theorem TrmOk_any (ao : Option Addr) (cap : Nat) (t : List C) (w : World) (hm : t.length ≤ maxLen) (hA : Row w ao t) (hF : Fit t) :
    Calls Try.prog 32 #[.slice ao t.length cap] w fun e w' => e = .returned (.bool (trm t)) ∧ Below w.heap.size w w' := by
  rcases hA with rfl | ⟨b, off, rfl, hA⟩
  · rw [trm_nil]; exact TrmOk_none ao cap w
  · exact TrmOk_some b off cap t w hm hA hF
end Go.Proofs.Ytddhjafpacgdaaa
