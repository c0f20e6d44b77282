import Derived.Test.YtonpahhcfgdeoaaQW15
/- The plain mathematics of terms, more: variables under other numbers. -/
namespace Go.Proofs.Ytonpahhcfgdeoaa
set_option linter.unusedVariables false
set_option linter.unusedSimpArgs false

/-- Places with each variable's number turned. -/
def ren (f : Int → Int) (c : C) : C := if c.k = 1 then ⟨c.k, f c.n, c.s⟩ else c

theorem ren_k (f : Int → Int) (c : C) : (ren f c).k = c.k := by unfold ren; split <;> rfl
theorem mem_map_inj {f : Int → Int} (hf : ∀ x y, f x = f y → x = y) (z : List Int) (x : Int) : f x ∈ z.map f ↔ x ∈ z := by
  rw [List.mem_map]
  constructor
  · rintro ⟨y, hy, e⟩
    rw [← hf _ _ e]; exact hy
  · exact fun h => ⟨x, h, rfl⟩

theorem addV_ren {f : Int → Int} (hf : ∀ x y, f x = f y → x = y) (acc : List Int) (c : C) : addV (acc.map f) (ren f c) = (addV acc c).map f := by
  by_cases h : c.k = 1
  · have e : ren f c = ⟨c.k, f c.n, c.s⟩ := by simp [ren, h]
    rw [e]
    by_cases hn : c.n ∈ acc
    · rw [addV_old hn, addV_old (c := ⟨c.k, f c.n, c.s⟩) (by show f c.n ∈ _; rw [mem_map_inj hf]; exact hn)]
    · rw [addV_new h hn, addV_new (c := ⟨c.k, f c.n, c.s⟩) h (by show f c.n ∉ _; rw [mem_map_inj hf]; exact hn)]; simp
  · have e : ren f c = c := by simp [ren, h]
    rw [e, addV_other h, addV_other h]
theorem fold_ren {f : Int → Int} (hf : ∀ x y, f x = f y → x = y) : ∀ (t : List C) (acc : List Int), (t.map (ren f)).foldl addV (acc.map f) = (t.foldl addV acc).map f
  | [], acc => rfl
  | c :: t, acc => by
      rw [List.map_cons, List.foldl_cons, List.foldl_cons, addV_ren hf, fold_ren hf t]
theorem freeOf_ren {f : Int → Int} (hf : ∀ x y, f x = f y → x = y) (t : List C) : freeOf (t.map (ren f)) = (freeOf t).map f := fold_ren hf t []

theorem placeV_map {f : Int → Int} (hf : ∀ x y, f x = f y → x = y) (x : Int) : ∀ z : List Int, placeV (z.map f) (f x) = placeV z x
  | [] => rfl
  | a :: r => by
      have ih := placeV_map hf x r
      simp only [List.map_cons, placeV, ih]
      by_cases h : a = x
      · simp [h]
      · rw [if_neg (fun e => h (hf _ _ e)), if_neg h]

theorem canonC_ren {f : Int → Int} (hf : ∀ x y, f x = f y → x = y) (z : List Int) (c : C) : canonC (z.map f) (ren f c) = canonC z c := by
  by_cases h : c.k = 1
  · have e : ren f c = ⟨c.k, f c.n, c.s⟩ := by simp [ren, h]
    rw [e, canonC_var h, canonC_var (c := ⟨c.k, f c.n, c.s⟩) h, placeV_map hf]
  · have e : ren f c = c := by simp [ren, h]
    rw [e, canonC_other h, canonC_other h]

/-- How variables are numbered makes no difference. -/
theorem canonOf_ren {f : Int → Int} (hf : ∀ x y, f x = f y → x = y) (t : List C) : canonOf (t.map (ren f)) = canonOf t := by
  unfold canonOf
  rw [freeOf_ren hf, List.map_map]
  apply List.map_congr_left
  intro c _
  exact canonC_ren hf _ c

/-- Numbers turned about in pairs. -/
def sw (n : Int) : Int := if n % 2 = 0 then n + 1 else n - 1
theorem sw_inj (x y : Int) (h : sw x = sw y) : x = y := by
  unfold sw at h
  split at h <;> split at h <;> omega

def renC (c : C) : C := if c.k = 1 then (if c.n < 99999 then ⟨c.k, sw c.n, c.s⟩ else c) else c

theorem renC_ren {c : C} (h : c.k = 1 → c.n < 99999) : renC c = ren sw c := by
  unfold renC ren
  by_cases h1 : c.k = 1
  · rw [if_pos h1, if_pos h1, if_pos (h h1)]
  · rw [if_neg h1, if_neg h1]

theorem map_renC {t : List C} (h : ∀ c ∈ t, c.k = 1 → c.n < 99999) : t.map renC = t.map (ren sw) := List.map_congr_left (fun c hc => renC_ren (h c hc))

/-- The first k places turned, the others as they were. -/
def mix (t : List C) (k : Nat) : List C := (t.take k).map renC ++ t.drop k
theorem mix_length (t : List C) (k : Nat) : (mix t k).length = t.length := by simp [mix]; omega
theorem mix_zero (t : List C) : mix t 0 = t := by simp [mix]
theorem mix_all (t : List C) : mix t t.length = t.map renC := by simp [mix]
theorem mix_get {t : List C} {k : Nat} (h : k < t.length) : (mix t k)[k]'(by rw [mix_length]; exact h) = t[k] := by
  unfold mix
  rw [List.getElem_append_right (by simp; omega)]
  have e : k - ((t.take k).map renC).length = 0 := by simp; omega
  simp only [e, List.getElem_drop, Nat.add_zero]
theorem mix_set {t : List C} {k : Nat} (h : k < t.length) : (mix t k).set k (renC t[k]) = mix t (k + 1) := by
  unfold mix
  have hl : ((t.take k).map renC).length = k := by simp; omega
  rw [List.set_append_right _ _ (by omega), hl, Nat.sub_self, List.drop_eq_getElem_cons h, List.set_cons_zero, List.take_succ_eq_append_getElem h, List.map_append, List.append_assoc]
  rfl
theorem renC_id {c : C} (h : ¬ (c.k = 1 ∧ c.n < 99999)) : renC c = c := by
  unfold renC
  by_cases h1 : c.k = 1
  · rw [if_pos h1, if_neg (fun h2 => h ⟨h1, h2⟩)]
  · rw [if_neg h1]
theorem mix_same {t : List C} {k : Nat} (h : k < t.length) (hc : renC t[k] = t[k]) : mix t (k + 1) = mix t k := by
  rw [← mix_set h, hc]
  apply List.ext_getElem
  · simp
  · intro i h1 h2
    rw [List.getElem_set]
    split
    · rename_i e; subst e; rw [mix_get h]
    · rfl
end Go.Proofs.Ytonpahhcfgdeoaa

/- The plain mathematics of terms, more: what is numbered as it comes first stays so. -/
namespace Go.Proofs.Ytonpahhcfgdeoaa
set_option linter.unusedVariables false
set_option linter.unusedSimpArgs false

theorem mem_map_on {f : Int → Int} {S : Int → Prop} (hf : ∀ x y, S x → S y → f x = f y → x = y) (z : List Int) (hz : ∀ a ∈ z, S a) (x : Int) (hx : S x) : f x ∈ z.map f ↔ x ∈ z := by
  rw [List.mem_map]
  constructor
  · rintro ⟨y, hy, e⟩
    rw [← hf _ _ (hz y hy) hx e]; exact hy
  · exact fun h => ⟨x, h, rfl⟩

theorem addV_on {f : Int → Int} {S : Int → Prop} (hf : ∀ x y, S x → S y → f x = f y → x = y) (acc : List Int) (hz : ∀ a ∈ acc, S a) (c : C) (hc : c.k = 1 → S c.n) : addV (acc.map f) (ren f c) = (addV acc c).map f := by
  by_cases h : c.k = 1
  · have e : ren f c = ⟨c.k, f c.n, c.s⟩ := by simp [ren, h]
    rw [e]
    by_cases hn : c.n ∈ acc
    · rw [addV_old hn, addV_old (c := ⟨c.k, f c.n, c.s⟩) (by show f c.n ∈ _; rw [mem_map_on hf acc hz _ (hc h)]; exact hn)]
    · rw [addV_new h hn, addV_new (c := ⟨c.k, f c.n, c.s⟩) h (by show f c.n ∉ _; rw [mem_map_on hf acc hz _ (hc h)]; exact hn)]; simp
  · have e : ren f c = c := by simp [ren, h]
    rw [e, addV_other h, addV_other h]

theorem addV_S {S : Int → Prop} (acc : List Int) (hz : ∀ a ∈ acc, S a) (c : C) (hc : c.k = 1 → S c.n) : ∀ a ∈ addV acc c, S a := by
  intro a ha
  unfold addV at ha
  split at ha
  · rename_i h1
    split at ha
    · exact hz a ha
    · rcases List.mem_append.1 ha with ha | ha
      · exact hz a ha
      · simp at ha; rw [ha]; exact hc h1
  · exact hz a ha

theorem fold_on {f : Int → Int} {S : Int → Prop} (hf : ∀ x y, S x → S y → f x = f y → x = y) : ∀ (t : List C) (acc : List Int), (∀ c ∈ t, c.k = 1 → S c.n) → (∀ a ∈ acc, S a) → (t.map (ren f)).foldl addV (acc.map f) = (t.foldl addV acc).map f
  | [], acc, _, _ => rfl
  | c :: t, acc, ht, ha => by
      rw [List.map_cons, List.foldl_cons, List.foldl_cons, addV_on hf acc ha c (ht c (by simp)), fold_on hf t _ (fun d hd => ht d (by simp [hd])) (addV_S acc ha c (ht c (by simp)))]

theorem freeOf_on {f : Int → Int} {S : Int → Prop} (hf : ∀ x y, S x → S y → f x = f y → x = y) (t : List C) (ht : ∀ c ∈ t, c.k = 1 → S c.n) : freeOf (t.map (ren f)) = (freeOf t).map f := fold_on hf t [] ht (by simp)

theorem placeV_on {f : Int → Int} {S : Int → Prop} (hf : ∀ x y, S x → S y → f x = f y → x = y) (x : Int) (hx : S x) : ∀ z : List Int, (∀ a ∈ z, S a) → placeV (z.map f) (f x) = placeV z x
  | [], _ => rfl
  | a :: r, hz => by
      have ih := placeV_on hf x hx r (fun b hb => hz b (by simp [hb]))
      simp only [List.map_cons, placeV, ih]
      by_cases h : a = x
      · simp [h]
      · rw [if_neg (fun e => h (hf _ _ (hz a (by simp)) hx e)), if_neg h]

theorem placeV_get {z : List Int} (hz : z.Nodup) {k : Nat} (hk : k < z.length) : placeV z z[k] = k :=
  placeV_at z k hk (fun j hj hjk e => by
    have := (List.getElem_inj hz).1 e
    omega)

theorem placeV_inj {z : List Int} (hz : z.Nodup) : ∀ x y, x ∈ z → y ∈ z → placeV z x = placeV z y → x = y := by
  intro x y hx hy e
  obtain ⟨i, hi, rfl⟩ := List.getElem_of_mem hx
  obtain ⟨j, hj, rfl⟩ := List.getElem_of_mem hy
  rw [placeV_get hz hi, placeV_get hz hj] at e
  have : i = j := by omega
  subst this; rfl

theorem canon_ren (t : List C) : canonOf t = t.map (ren (placeV (freeOf t))) := rfl

theorem vars_in (t : List C) : ∀ c ∈ t, c.k = 1 → c.n ∈ freeOf t := fun c hc h => (mem_freeOf t c.n).2 ⟨c, hc, h, rfl⟩

theorem free_canon (t : List C) : freeOf (canonOf t) = (freeOf t).map (placeV (freeOf t)) := by
  rw [canon_ren]
  exact freeOf_on (S := fun x => x ∈ freeOf t) (fun x y hx hy e => placeV_inj (freeOf_nodup t) x y hx hy e) t (vars_in t)

theorem free_canon_get (t : List C) {k : Nat} (hk : k < (freeOf (canonOf t)).length) : (freeOf (canonOf t))[k] = k := by
  have hl : k < (freeOf t).length := by rw [free_canon, List.length_map] at hk; exact hk
  have e : (freeOf (canonOf t))[k]? = some (k : Int) := by
    rw [free_canon, List.getElem?_map, List.getElem?_eq_getElem hl]
    show some (placeV (freeOf t) (freeOf t)[k]) = _
    rw [placeV_get (freeOf_nodup t) hl]
  rw [List.getElem?_eq_getElem hk] at e
  exact Option.some.inj e

theorem free_canon_len (t : List C) : (freeOf (canonOf t)).length = (freeOf t).length := by rw [free_canon, List.length_map]

theorem canon_twice (t : List C) : canonOf (canonOf t) = canonOf t := by
  show (canonOf t).map (canonC (freeOf (canonOf t))) = canonOf t
  rw [free_canon]
  conv => lhs; rw [canon_ren]
  rw [List.map_map]
  conv => rhs; rw [canon_ren]
  apply List.map_congr_left
  intro c hc
  show canonC _ (ren _ c) = ren _ c
  by_cases h : c.k = 1
  · have e : ren (placeV (freeOf t)) c = ⟨c.k, placeV (freeOf t) c.n, c.s⟩ := by simp [ren, h]
    rw [e, canonC_var (c := ⟨c.k, placeV (freeOf t) c.n, c.s⟩) h]
    show (⟨c.k, placeV ((freeOf t).map (placeV (freeOf t))) (placeV (freeOf t) c.n), c.s⟩ : C) = _
    rw [placeV_on (S := fun x => x ∈ freeOf t) (fun x y hx hy e => placeV_inj (freeOf_nodup t) x y hx hy e) c.n (vars_in t c hc h) (freeOf t) (fun a ha => ha)]
  · have e : ren (placeV (freeOf t)) c = c := by simp [ren, h]
    rw [e, canonC_other h]

theorem ends_map {g : C → C} (hg : ∀ c, ari (g c) = ari c) : ∀ (t : List C) (m : Int), ends m (t.map g) = ends m t
  | [], m => rfl
  | c :: t, m => by simp only [List.map_cons, ends, hg c, ends_map hg t]

theorem placeV_in {z : List Int} (hz : z.Nodup) {x : Int} (hx : x ∈ z) : 0 ≤ placeV z x ∧ placeV z x < z.length := by
  obtain ⟨i, hi, rfl⟩ := List.getElem_of_mem hx
  rw [placeV_get hz hi]; omega

theorem trm_canon {t : List C} (h : trm t = true) : trm (canonOf t) = true := by
  have h0 := (trm_iff t).1 h
  refine (trm_iff _).2 ⟨by rw [canonOf_length]; exact h0.1, by rw [canonOf_length]; exact h0.2.1, fun d hd => ?_, ?_⟩
  · obtain ⟨c, hc, rfl⟩ := List.mem_map.1 hd
    have ho := h0.2.2.1 c hc
    by_cases h1 : c.k = 1
    · rw [canonC_var h1]
      have hp := placeV_in (freeOf_nodup t) (vars_in t c hc h1)
      have hl := freeOf_len t
      have hr := (okC1 h1).1 ho
      exact (okC1 (c := ⟨c.k, placeV (freeOf t) c.n, c.s⟩) h1).2 ⟨hp.1, by show placeV (freeOf t) c.n ≤ 99999; omega, hr.2.2⟩
    · rw [canonC_other h1]; exact ho
  · rw [canonOf_length]
    unfold canonOf
    rw [ends_map (fun c => by unfold canonC ari; split <;> simp_all)]
    exact h0.2.2.2

theorem wf_canon {t : List C} (hl : t.length ≤ 1048576) (h : WfC t) : WfC (canonOf t) := fun d hd => by
  obtain ⟨c, hc, rfl⟩ := List.mem_map.1 hd
  obtain ⟨h1, h2⟩ := h c hc
  unfold canonC
  split
  · rename_i hk
    have hp := placeV_in (freeOf_nodup t) (vars_in t c hc hk)
    have := freeOf_len t
    exact ⟨h1, show (Lit.int .i64 (placeV (freeOf t) c.n)).wf = true from WalkArith.wf_i64 (by omega)⟩
  · exact ⟨h1, h2⟩

theorem wf_trm {t : List C} (h : trm t = true) : WfC t := fun c hc => by
  have ho := ((trm_iff t).1 h).2.2.1 c hc
  unfold okC at ho
  split at ho
  · rename_i hk; simp at ho; exact ⟨by rw [hk]; decide, WalkArith.wf_i64 (by omega)⟩
  · split at ho
    · rename_i hk; simp at ho; exact ⟨by rw [hk]; decide, WalkArith.wf_i64 (by omega)⟩
    · split at ho
      · rename_i hk; simp at ho; exact ⟨by rw [hk]; decide, WalkArith.wf_i64 (by omega)⟩
      · cases ho

theorem fit_canon {t : List C} (h : Fit t) : Fit (canonOf t) := fun d hd => by
  obtain ⟨c, hc, rfl⟩ := List.mem_map.1 hd
  have := h c hc
  unfold canonC; split <;> exact this
end Go.Proofs.Ytonpahhcfgdeoaa
