/- How many pairs are to be made the same at once, at most; all that keeps lists short while two terms are made the same. -/
import Derived.Test.YtonpahhcfgdeoaaQOpenW12PB5
namespace Go.Proofs.Ytonpahhcfgdeoaa
set_option linter.unusedVariables false
set_option linter.unusedSimpArgs false

theorem reach_on {s : List B} {v u : Int} (h : varIn (getB s v) u) {x : Int} (hr : Reach s (getB s u) x) : Reach s (getB s v) x := by
  induction hr with
  | here h1 => exact .step (.here h) h1
  | step _ h2 ih => exact .step ih h2

/-- A rank that is no greater than how many are bound. -/
theorem rank_le {s : List B} (h : OkB s) : ∃ ρ, Ranked s ρ ∧ ∀ v, ρ v ≤ s.length := by
  classical
  have hn : NoRing s := by obtain ⟨ρ, hρ⟩ := h.rank; exact ranked_noRing hρ
  refine ⟨fun v => ((s.map (·.v)).filter fun x => decide (Reach s (getB s v) x)).length, fun v u hu hb => ?_, fun v => ?_⟩
  · obtain ⟨y, hy, e, _⟩ := getB_mem hb
    refine filter_lt (y := u) (List.mem_map.2 ⟨y, hy, e⟩) (by simpa using Reach.here hu) (by simpa using hn u hb) (fun x _ hx => ?_)
    simp only [decide_eq_true_eq] at hx ⊢
    exact reach_on hu hx
  · exact Nat.le_trans (List.length_filter_le _ _) (by simp)

/-- How deep a term is at most, with all that is bound. -/
def Lvl (sf : List B) (ρ : Int → Nat) (t : List C) (u : Nat) : Prop := ∃ r, (∀ v, varIn t v → getB sf v ≠ [] → ρ v < r) ∧ 41 * r + t.length ≤ u

theorem kid_len {ks : List (List C)} {k : List C} (hk : k ∈ ks) : k.length ≤ ks.flatten.length := by
  induction ks with
  | nil => simp at hk
  | cons a ks ih =>
    rw [List.flatten_cons, List.length_append]
    rcases List.mem_cons.1 hk with rfl | hk
    · omega
    · have := ih hk; omega

theorem Lvl.kid {sf : List B} {ρ : Int → Nat} {c : C} {ks : List (List C)} {k : List C} {u : Nat} (h : Lvl sf ρ (c :: ks.flatten) u) (hk : k ∈ ks) : ∃ u', u = u' + 1 ∧ Lvl sf ρ k u' := by
  obtain ⟨r, h1, h2⟩ := h
  have := kid_len hk
  rw [List.length_cons] at h2
  exact ⟨u - 1, by omega, r, fun v hv => h1 v (varIn_cons.2 (.inr (varIn_flat hk hv))), by omega⟩

theorem Lvl.now {sf s : List B} {ρ : Int → Nat} (hρ : Ranked sf ρ) (hpre : ∀ v, getB s v ≠ [] → getB sf v = getB s v) (hlen : ∀ v, (getB s v).length ≤ 40) {n : Nat} {t x : List C} (h : Now s n t x) : ∀ {u : Nat}, Lvl sf ρ t u → Lvl sf ρ x u := by
  induction h with
  | stop => exact id
  | @on n c r x h1 h2 _ ih =>
    rintro u ⟨q, hr, hu⟩
    have e := hpre _ h2
    have hlt := hr c.n (varIn_cons.2 (.inl ⟨h1, rfl⟩)) (by rw [e]; exact h2)
    have hl := hlen c.n
    rw [List.length_cons] at hu
    exact ih ⟨ρ c.n, fun v hv hb => hρ c.n v (by rw [e]; exact hv) hb, by omega⟩

theorem lvl_all {sf : List B} {ρ : Int → Nat} (hρ : ∀ v, ρ v ≤ sf.length) {t : List C} (ht : t.length ≤ 40) : Lvl sf ρ t (41 * (sf.length + 1) + 40) :=
  ⟨sf.length + 1, fun v _ _ => by have := hρ v; omega, by omega⟩

/-- What lies further down is deeper. -/
def Stk (sf : List B) (ρ : Int → Nat) (M : Nat) : List (List C × List C) → Prop
  | [] => True
  | p :: r => (∃ u, Lvl sf ρ p.1 u ∧ r.length + 2 * u ≤ 2 * M) ∧ Stk sf ρ M r

theorem Stk.len {sf : List B} {ρ : Int → Nat} {M : Nat} {ps : List (List C × List C)} (h : Stk sf ρ M ps) : ps.length ≤ 2 * M + 1 := by
  cases ps with
  | nil => simp
  | cons p r =>
    obtain ⟨⟨u, _, h⟩, _⟩ := h
    rw [List.length_cons]; omega

theorem Stk.push {sf : List B} {ρ : Int → Nat} {M : Nat} {r : List (List C × List C)} (hr : Stk sf ρ M r) : ∀ (xs ys : List (List C)), xs.length ≤ 3 → (∀ k ∈ xs, ∃ u, Lvl sf ρ k u ∧ r.length + 2 + 2 * u ≤ 2 * M) → Stk sf ρ M (xs.zip ys ++ r)
  | [], ys, _, _ => by simpa using hr
  | x :: xs, [], _, _ => by simpa using hr
  | x :: xs, y :: ys, hl, h => by
      rw [List.zip_cons_cons, List.cons_append]
      rw [List.length_cons] at hl
      refine ⟨?_, hr.push xs ys (by omega) (fun k hk => h k (by simp [hk]))⟩
      obtain ⟨u, h1, h2⟩ := h x (by simp)
      exact ⟨u, h1, by simp only [List.length_append, List.length_zip]; omega⟩

theorem okC_var {c : C} (h : okC c = true) (hk : c.k = 1) : 0 ≤ c.n ∧ c.n ≤ 99999 := by
  unfold okC at h
  rw [if_pos hk] at h
  simp at h
  exact h.1

theorem okC_num {c : C} (h : okC c = true) : -100000 ≤ c.n ∧ c.n ≤ 99999 := by
  unfold okC at h
  split at h
  · simp at h; omega
  · split at h
    · simp at h; omega
    · split at h
      · simp at h; omega
      · cases h

theorem range_len {s : List B} (h : Once s) (hr : ∀ x ∈ s, 0 ≤ x.v ∧ x.v ≤ 99999) : s.length ≤ 100000 := by
  have := nodup_len (l := s.map (fun x : B => x.v)) (V := (List.range 100000).map Int.ofNat) h (fun v hv => by
    obtain ⟨x, hx, rfl⟩ := List.mem_map.1 hv
    have := hr x hx
    exact List.mem_map.2 ⟨x.v.toNat, List.mem_range.2 (by omega), by simp; omega⟩)
  simpa using this

/-- All that keeps lists short while two terms are made the same; sf: the bindings at the end. -/
structure Room (sf s : List B) (ps : List (List C × List C)) : Prop where
  ok : OkB s
  okf : OkB sf
  pre : ∃ r, sf = s ++ r
  prs : Prs ps
  short : ∀ p ∈ ps, p.1.length ≤ 40 ∧ p.2.length ≤ 40
  shortB : ∀ x ∈ s, x.t.length ≤ 40
  range : ∀ x ∈ s, 0 ≤ x.v ∧ x.v ≤ 99999
  sfl : sf.length ≤ 100000
  stk : ∃ ρ, Ranked sf ρ ∧ Stk sf ρ (41 * (sf.length + 1) + 40) ps

theorem Room.getlen {sf s : List B} {ps : List (List C × List C)} (h : Room sf s ps) (v : Int) : (getB s v).length ≤ 40 := by
  by_cases h0 : getB s v = []
  · rw [h0]; simp
  · obtain ⟨x, hx, _, e⟩ := getB_mem h0
    rw [← e]; exact h.shortB x hx

theorem Room.len {sf s : List B} {ps : List (List C × List C)} (h : Room sf s ps) : s.length ≤ 100000 := range_len h.ok.once h.range

theorem Room.count {sf s : List B} {ps : List (List C × List C)} (h : Room sf s ps) : ps.length ≤ 8400000 := by
  obtain ⟨ρ, _, h1⟩ := h.stk
  have := h1.len
  have := h.sfl
  omega

theorem Now.len {s : List B} (hs : ∀ v, (getB s v).length ≤ 40) {n : Nat} {t x : List C} (h : Now s n t x) : t.length ≤ 40 → x.length ≤ 40 := by
  induction h with
  | stop => exact id
  | on _ _ _ ih => exact fun _ => ih (hs _)

theorem get_pre {sf s : List B} (hp : ∃ r, sf = s ++ r) {v : Int} (hv : getB s v ≠ []) : getB sf v = getB s v := by
  obtain ⟨r, rfl⟩ := hp
  rw [getB_append, if_pos]
  obtain ⟨x, hx, e, _⟩ := getB_mem hv
  exact List.mem_map.2 ⟨x, hx, e⟩

theorem Room.args {sf s : List B} {a b : List C} {r : List (List C × List C)} (h : Room sf s ((a, b) :: r)) {n1 n2 : Nat} {c : C} {xs ys : List (List C)} (hx : Now s n1 a (c :: xs.flatten)) (hy : Now s n2 b (c :: ys.flatten)) (hxs : ∀ k ∈ xs, Trm k) (hys : ∀ k ∈ ys, Trm k)
    (hxl : (xs.length : Int) = ari c) (hyl : (ys.length : Int) = ari c) : Room sf s (xs.zip ys ++ r) := by
  obtain ⟨ρ, hρ, hst⟩ := h.stk
  obtain ⟨⟨u, hu, hru⟩, hstr⟩ := hst
  have hab := h.short (a, b) (by simp)
  have hxlen := hx.len h.getlen hab.1
  have hylen := hy.len h.getlen hab.2
  rw [List.length_cons] at hxlen hylen
  have hut := (Lvl.now hρ (fun v hv => get_pre h.pre hv) h.getlen hx) hu
  have ht := hx.trm h.ok (h.prs (a, b) (by simp)).1
  have h3 : xs.length ≤ 3 := by have := (ari_ok (ht.2 c (by simp))).2; omega
  refine ⟨h.ok, h.okf, h.pre, fun q hq => ?_, fun q hq => ?_, h.shortB, h.range, h.sfl, ρ, hρ, hstr.push xs ys h3 (fun k hk => ?_)⟩
  · rcases List.mem_append.1 hq with hq | hq
    · exact ⟨hxs _ (zip_mem hq).1, hys _ (zip_mem hq).2⟩
    · exact h.prs q (by simp [hq])
  · rcases List.mem_append.1 hq with hq | hq
    · have h1 := kid_len (zip_mem hq).1
      have h2 := kid_len (zip_mem hq).2
      exact ⟨by omega, by omega⟩
    · exact h.short q (by simp [hq])
  · obtain ⟨u', rfl, h'⟩ := hut.kid hk
    exact ⟨u', h', by omega⟩

theorem Room.bind {sf s : List B} {p : List C × List C} {r : List (List C × List C)} (h : Room sf s (p :: r)) {v : Int} {y : List C} (hv : getB s v = []) (hvr : 0 ≤ v ∧ v ≤ 99999) (hy : Trm y) (hyl : y.length ≤ 40) (hr : ¬ Reach s y v) (hpre : ∃ q, sf = (s ++ [⟨v, y⟩]) ++ q) : Room sf (s ++ [⟨v, y⟩]) r := by
  obtain ⟨ρ, hρ, hst⟩ := h.stk
  refine ⟨h.ok.bind hv hy hr, h.okf, hpre, fun q hq => h.prs q (by simp [hq]), fun q hq => h.short q (by simp [hq]), fun x hx => ?_, fun x hx => ?_, h.sfl, ρ, hρ, hst.2⟩
  · rcases List.mem_append.1 hx with hx | hx
    · exact h.shortB x hx
    · simp at hx; subst hx; exact hyl
  · rcases List.mem_append.1 hx with hx | hx
    · exact h.range x hx
    · simp at hx; subst hx; exact hvr

theorem Uni.range {n : Nat} {s sf : List B} {ps : List (List C × List C)} {res : Option (List B)} (h : Uni n s ps res sf) : OkB s → Prs ps → (∀ x ∈ s, 0 ≤ x.v ∧ x.v ≤ 99999) → ∀ x ∈ sf, 0 ≤ x.v ∧ x.v ≤ 99999 := by
  induction h with
  | done => exact fun _ _ h => h
  | args _ _ hxs hys _ _ _ ih =>
    intro hs hp
    refine ih hs (fun q hq => ?_)
    rcases List.mem_append.1 hq with hq | hq
    · exact ⟨hxs _ (zip_mem hq).1, hys _ (zip_mem hq).2⟩
    · exact hp q (by simp [hq])
  | @bindL n n1 n2 s sf a b y r c res hx hy hc hne hr _ ih =>
    intro hs hp hrg
    have hyt := hy.trm hs (hp (a, b) (by simp)).2
    have hxt := hx.trm hs (hp (a, b) (by simp)).1
    obtain ⟨c', r', e1, hcb⟩ := hx.head
    simp only [List.cons.injEq] at e1
    obtain ⟨rfl, rfl⟩ := e1
    refine ih (hs.bind (hcb hc) hyt hr) (fun q hq => hp q (by simp [hq])) (fun x hx => ?_)
    rcases List.mem_append.1 hx with hx | hx
    · exact hrg x hx
    · simp at hx; subst hx; exact okC_var (hxt.2 c (by simp)) hc
  | ringL => exact fun _ _ h => h
  | @bindR n n1 n2 s sf a b x r c d res hx hy hc hd hr _ ih =>
    intro hs hp hrg
    have hxt := hx.trm hs (hp (a, b) (by simp)).1
    have hyt := hy.trm hs (hp (a, b) (by simp)).2
    obtain ⟨c', r', e1, hcb⟩ := hy.head
    simp only [List.cons.injEq] at e1
    obtain ⟨rfl, rfl⟩ := e1
    refine ih (hs.bind (hcb hc) hxt hr) (fun q hq => hp q (by simp [hq])) (fun x hx => ?_)
    rcases List.mem_append.1 hx with hx | hx
    · exact hrg x hx
    · simp at hx; subst hx; exact okC_var (hyt.2 c (by simp)) hc
  | ringR => exact fun _ _ h => h
  | apart => exact fun _ _ h => h

theorem Room.begin {n : Nat} {s sf : List B} {a b : List C} {res : Option (List B)} (h : Uni n s [(a, b)] res sf) (hs : OkB s) (hrg : ∀ x ∈ s, 0 ≤ x.v ∧ x.v ≤ 99999) (hsh : ∀ x ∈ s, x.t.length ≤ 40) (ha : Trm a) (hb : Trm b) (hal : a.length ≤ 40) (hbl : b.length ≤ 40) : Room sf s [(a, b)] := by
  have hp : Prs [(a, b)] := fun p hp => by simp at hp; subst hp; exact ⟨ha, hb⟩
  obtain ⟨h1, h2, _⟩ := h.ok hs hp
  obtain ⟨ρ, hρ, hle⟩ := rank_le h1
  refine ⟨hs, h1, h2, hp, fun p hp => by simp at hp; subst hp; exact ⟨hal, hbl⟩, hsh, hrg, range_len h1.once (h.range hs hp hrg), ρ, hρ, ⟨_, lvl_all hle hal, by simp⟩, trivial⟩

/-- What is short stays short to the end. -/
theorem Uni.room {n : Nat} {s sf : List B} {ps : List (List C × List C)} {res : Option (List B)} (h : Uni n s ps res sf) : Room sf s ps → ∀ s', res = some s' → Room sf s' [] := by
  induction h with
  | done => intro hr s' e; cases e; exact hr
  | args hx hy hxs hys hxl hyl _ ih => intro hr s' e; exact ih (hr.args hx hy hxs hys hxl hyl) s' e
  | @bindL n n1 n2 s sf a b y r c res hx hy hc hne hnr hU ih =>
    intro hr s' e
    obtain ⟨hpa, hpb⟩ := hr.prs (a, b) (by simp)
    obtain ⟨hla, hlb⟩ := hr.short (a, b) (by simp)
    have hyt := hy.trm hr.ok hpb
    have hxt := hx.trm hr.ok hpa
    obtain ⟨c', r', e1, hcb⟩ := hx.head
    simp only [List.cons.injEq] at e1
    obtain ⟨rfl, rfl⟩ := e1
    exact ih (hr.bind (hcb hc) (okC_var (hxt.2 c (by simp)) hc) hyt (hy.len hr.getlen hlb) hnr (hU.ok (hr.ok.bind (hcb hc) hyt hnr) (fun p hp => hr.prs p (by simp [hp]))).2.1) s' e
  | ringL => intro _ s' e; cases e
  | @bindR n n1 n2 s sf a b x r c d res hx hy hc hd hnr hU ih =>
    intro hr s' e
    obtain ⟨hpa, hpb⟩ := hr.prs (a, b) (by simp)
    obtain ⟨hla, hlb⟩ := hr.short (a, b) (by simp)
    have hyt := hy.trm hr.ok hpb
    have hxt := hx.trm hr.ok hpa
    obtain ⟨c', r', e1, hcb⟩ := hy.head
    simp only [List.cons.injEq] at e1
    obtain ⟨rfl, rfl⟩ := e1
    exact ih (hr.bind (hcb hc) (okC_var (hyt.2 c (by simp)) hc) hxt (hx.len hr.getlen hla) hnr (hU.ok (hr.ok.bind (hcb hc) hxt hnr) (fun p hp => hr.prs p (by simp [hp]))).2.1) s' e
  | ringR => intro _ s' e; cases e
  | apart => intro _ s' e; cases e

/-- Bindings that are ok, in bounds. -/
structure GoodB (s : List B) : Prop where
  ok : OkB s
  short : ∀ x ∈ s, x.t.length ≤ 40
  range : ∀ x ∈ s, 0 ≤ x.v ∧ x.v ≤ 99999
theorem GoodB.nil : GoodB [] := ⟨⟨by simp [Once], fun x h => by simp at h, fun _ => 0, fun v u h => by simp [getB] at h; exact absurd h (varIn_nil u)⟩, fun x h => by simp at h, fun x h => by simp at h⟩
theorem Room.good {sf s : List B} {ps : List (List C × List C)} (h : Room sf s ps) : GoodB s := ⟨h.ok, h.shortB, h.range⟩
theorem GoodB.len {s : List B} (h : GoodB s) : s.length ≤ 100000 := range_len h.ok.once h.range
end Go.Proofs.Ytonpahhcfgdeoaa
