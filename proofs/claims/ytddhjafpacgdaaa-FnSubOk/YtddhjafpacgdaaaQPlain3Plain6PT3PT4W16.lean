import Derived.Test.YtddhjafpacgdaaaQW15D3
import Derived.Test.YtddhjafpacgdaaaQPT1
import Derived.Test.YtddhjafpacgdaaaQPT2
/- The plain mathematics of terms, more: variables under other numbers. -/
namespace Go.Proofs.Ytddhjafpacgdaaa
set_option linter.unusedVariables false
set_option linter.unusedSimpArgs false

/-- Places with each variable's number turned. -/
def ren (f : Int → Int) (c : C) : C := if c.k = 1 then ⟨c.k, f c.n, c.s⟩ else c

theorem ren_k (f : Int → Int) (c : C) : (ren f c).k = c.k := by unfold ren; split <;> rfl
theorem mem_map_inj {f : Int → Int} (hf : ∀ x y, f x = f y → x = y) (z : List Int) (x : Int) : f x ∈ z.map f ↔ x ∈ z := by
  rw [List.mem_map]
  constructor
  · rintro ⟨y, hy, e⟩
    rw [← hf _ _ e]; exact hy
  · exact fun h => ⟨x, h, rfl⟩

theorem addV_ren {f : Int → Int} (hf : ∀ x y, f x = f y → x = y) (acc : List Int) (c : C) : addV (acc.map f) (ren f c) = (addV acc c).map f := by
  by_cases h : c.k = 1
  · have e : ren f c = ⟨c.k, f c.n, c.s⟩ := by simp [ren, h]
    rw [e]
    by_cases hn : c.n ∈ acc
    · rw [addV_old hn, addV_old (c := ⟨c.k, f c.n, c.s⟩) (by show f c.n ∈ _; rw [mem_map_inj hf]; exact hn)]
    · rw [addV_new h hn, addV_new (c := ⟨c.k, f c.n, c.s⟩) h (by show f c.n ∉ _; rw [mem_map_inj hf]; exact hn)]; simp
  · have e : ren f c = c := by simp [ren, h]
    rw [e, addV_other h, addV_other h]
theorem fold_ren {f : Int → Int} (hf : ∀ x y, f x = f y → x = y) : ∀ (t : List C) (acc : List Int), (t.map (ren f)).foldl addV (acc.map f) = (t.foldl addV acc).map f
  | [], acc => rfl
  | c :: t, acc => by
      rw [List.map_cons, List.foldl_cons, List.foldl_cons, addV_ren hf, fold_ren hf t]
theorem freeOf_ren {f : Int → Int} (hf : ∀ x y, f x = f y → x = y) (t : List C) : freeOf (t.map (ren f)) = (freeOf t).map f := fold_ren hf t []

theorem placeV_map {f : Int → Int} (hf : ∀ x y, f x = f y → x = y) (x : Int) : ∀ z : List Int, placeV (z.map f) (f x) = placeV z x
  | [] => rfl
  | a :: r => by
      have ih := placeV_map hf x r
      simp only [List.map_cons, placeV, ih]
      by_cases h : a = x
      · simp [h]
      · rw [if_neg (fun e => h (hf _ _ e)), if_neg h]

theorem canonC_ren {f : Int → Int} (hf : ∀ x y, f x = f y → x = y) (z : List Int) (c : C) : canonC (z.map f) (ren f c) = canonC z c := by
  by_cases h : c.k = 1
  · have e : ren f c = ⟨c.k, f c.n, c.s⟩ := by simp [ren, h]
    rw [e, canonC_var h, canonC_var (c := ⟨c.k, f c.n, c.s⟩) h, placeV_map hf]
  · have e : ren f c = c := by simp [ren, h]
    rw [e, canonC_other h, canonC_other h]

/-- How variables are numbered makes no difference. -/
theorem canonOf_ren {f : Int → Int} (hf : ∀ x y, f x = f y → x = y) (t : List C) : canonOf (t.map (ren f)) = canonOf t := by
  unfold canonOf
  rw [freeOf_ren hf, List.map_map]
  apply List.map_congr_left
  intro c _
  exact canonC_ren hf _ c

/-- Numbers turned about in pairs. -/
def sw (n : Int) : Int := if n % 2 = 0 then n + 1 else n - 1
theorem sw_inj (x y : Int) (h : sw x = sw y) : x = y := by
  unfold sw at h
  split at h <;> split at h <;> omega

def renC (c : C) : C := if c.k = 1 then (if c.n < 99999 then ⟨c.k, sw c.n, c.s⟩ else c) else c

theorem renC_ren {c : C} (h : c.k = 1 → c.n < 99999) : renC c = ren sw c := by
  unfold renC ren
  by_cases h1 : c.k = 1
  · rw [if_pos h1, if_pos h1, if_pos (h h1)]
  · rw [if_neg h1, if_neg h1]

theorem map_renC {t : List C} (h : ∀ c ∈ t, c.k = 1 → c.n < 99999) : t.map renC = t.map (ren sw) := List.map_congr_left (fun c hc => renC_ren (h c hc))

/-- The first k places turned, the others as they were. -/
def mix (t : List C) (k : Nat) : List C := (t.take k).map renC ++ t.drop k
theorem mix_length (t : List C) (k : Nat) : (mix t k).length = t.length := by simp [mix]; omega
theorem mix_zero (t : List C) : mix t 0 = t := by simp [mix]
theorem mix_all (t : List C) : mix t t.length = t.map renC := by simp [mix]
theorem mix_get {t : List C} {k : Nat} (h : k < t.length) : (mix t k)[k]'(by rw [mix_length]; exact h) = t[k] := by
  unfold mix
  rw [List.getElem_append_right (by simp; omega)]
  have e : k - ((t.take k).map renC).length = 0 := by simp; omega
  simp only [e, List.getElem_drop, Nat.add_zero]
theorem mix_set {t : List C} {k : Nat} (h : k < t.length) : (mix t k).set k (renC t[k]) = mix t (k + 1) := by
  unfold mix
  have hl : ((t.take k).map renC).length = k := by simp; omega
  rw [List.set_append_right _ _ (by omega), hl, Nat.sub_self, List.drop_eq_getElem_cons h, List.set_cons_zero, List.take_succ_eq_append_getElem h, List.map_append, List.append_assoc]
  rfl
theorem renC_id {c : C} (h : ¬ (c.k = 1 ∧ c.n < 99999)) : renC c = c := by
  unfold renC
  by_cases h1 : c.k = 1
  · rw [if_pos h1, if_neg (fun h2 => h ⟨h1, h2⟩)]
  · rw [if_neg h1]
theorem mix_same {t : List C} {k : Nat} (h : k < t.length) (hc : renC t[k] = t[k]) : mix t (k + 1) = mix t k := by
  rw [← mix_set h, hc]
  apply List.ext_getElem
  · simp
  · intro i h1 h2
    rw [List.getElem_set]
    split
    · rename_i e; subst e; rw [mix_get h]
    · rfl
end Go.Proofs.Ytddhjafpacgdaaa

/- The plain mathematics of terms, more: what is numbered as it comes first stays so. -/
namespace Go.Proofs.Ytddhjafpacgdaaa
set_option linter.unusedVariables false
set_option linter.unusedSimpArgs false

theorem mem_map_on {f : Int → Int} {S : Int → Prop} (hf : ∀ x y, S x → S y → f x = f y → x = y) (z : List Int) (hz : ∀ a ∈ z, S a) (x : Int) (hx : S x) : f x ∈ z.map f ↔ x ∈ z := by
  rw [List.mem_map]
  constructor
  · rintro ⟨y, hy, e⟩
    rw [← hf _ _ (hz y hy) hx e]; exact hy
  · exact fun h => ⟨x, h, rfl⟩

theorem addV_on {f : Int → Int} {S : Int → Prop} (hf : ∀ x y, S x → S y → f x = f y → x = y) (acc : List Int) (hz : ∀ a ∈ acc, S a) (c : C) (hc : c.k = 1 → S c.n) : addV (acc.map f) (ren f c) = (addV acc c).map f := by
  by_cases h : c.k = 1
  · have e : ren f c = ⟨c.k, f c.n, c.s⟩ := by simp [ren, h]
    rw [e]
    by_cases hn : c.n ∈ acc
    · rw [addV_old hn, addV_old (c := ⟨c.k, f c.n, c.s⟩) (by show f c.n ∈ _; rw [mem_map_on hf acc hz _ (hc h)]; exact hn)]
    · rw [addV_new h hn, addV_new (c := ⟨c.k, f c.n, c.s⟩) h (by show f c.n ∉ _; rw [mem_map_on hf acc hz _ (hc h)]; exact hn)]; simp
  · have e : ren f c = c := by simp [ren, h]
    rw [e, addV_other h, addV_other h]

theorem addV_S {S : Int → Prop} (acc : List Int) (hz : ∀ a ∈ acc, S a) (c : C) (hc : c.k = 1 → S c.n) : ∀ a ∈ addV acc c, S a := by
  intro a ha
  unfold addV at ha
  split at ha
  · rename_i h1
    split at ha
    · exact hz a ha
    · rcases List.mem_append.1 ha with ha | ha
      · exact hz a ha
      · simp at ha; rw [ha]; exact hc h1
  · exact hz a ha

theorem fold_on {f : Int → Int} {S : Int → Prop} (hf : ∀ x y, S x → S y → f x = f y → x = y) : ∀ (t : List C) (acc : List Int), (∀ c ∈ t, c.k = 1 → S c.n) → (∀ a ∈ acc, S a) → (t.map (ren f)).foldl addV (acc.map f) = (t.foldl addV acc).map f
  | [], acc, _, _ => rfl
  | c :: t, acc, ht, ha => by
      rw [List.map_cons, List.foldl_cons, List.foldl_cons, addV_on hf acc ha c (ht c (by simp)), fold_on hf t _ (fun d hd => ht d (by simp [hd])) (addV_S acc ha c (ht c (by simp)))]

theorem freeOf_on {f : Int → Int} {S : Int → Prop} (hf : ∀ x y, S x → S y → f x = f y → x = y) (t : List C) (ht : ∀ c ∈ t, c.k = 1 → S c.n) : freeOf (t.map (ren f)) = (freeOf t).map f := fold_on hf t [] ht (by simp)

theorem placeV_on {f : Int → Int} {S : Int → Prop} (hf : ∀ x y, S x → S y → f x = f y → x = y) (x : Int) (hx : S x) : ∀ z : List Int, (∀ a ∈ z, S a) → placeV (z.map f) (f x) = placeV z x
  | [], _ => rfl
  | a :: r, hz => by
      have ih := placeV_on hf x hx r (fun b hb => hz b (by simp [hb]))
      simp only [List.map_cons, placeV, ih]
      by_cases h : a = x
      · simp [h]
      · rw [if_neg (fun e => h (hf _ _ (hz a (by simp)) hx e)), if_neg h]

theorem placeV_get {z : List Int} (hz : z.Nodup) {k : Nat} (hk : k < z.length) : placeV z z[k] = k :=
  placeV_at z k hk (fun j hj hjk e => by
    have := (List.getElem_inj hz).1 e
    omega)

theorem placeV_inj {z : List Int} (hz : z.Nodup) : ∀ x y, x ∈ z → y ∈ z → placeV z x = placeV z y → x = y := by
  intro x y hx hy e
  obtain ⟨i, hi, rfl⟩ := List.getElem_of_mem hx
  obtain ⟨j, hj, rfl⟩ := List.getElem_of_mem hy
  rw [placeV_get hz hi, placeV_get hz hj] at e
  have : i = j := by omega
  subst this; rfl

theorem canon_ren (t : List C) : canonOf t = t.map (ren (placeV (freeOf t))) := rfl

theorem vars_in (t : List C) : ∀ c ∈ t, c.k = 1 → c.n ∈ freeOf t := fun c hc h => (mem_freeOf t c.n).2 ⟨c, hc, h, rfl⟩

theorem free_canon (t : List C) : freeOf (canonOf t) = (freeOf t).map (placeV (freeOf t)) := by
  rw [canon_ren]
  exact freeOf_on (S := fun x => x ∈ freeOf t) (fun x y hx hy e => placeV_inj (freeOf_nodup t) x y hx hy e) t (vars_in t)

theorem free_canon_get (t : List C) {k : Nat} (hk : k < (freeOf (canonOf t)).length) : (freeOf (canonOf t))[k] = k := by
  have hl : k < (freeOf t).length := by rw [free_canon, List.length_map] at hk; exact hk
  have e : (freeOf (canonOf t))[k]? = some (k : Int) := by
    rw [free_canon, List.getElem?_map, List.getElem?_eq_getElem hl]
    show some (placeV (freeOf t) (freeOf t)[k]) = _
    rw [placeV_get (freeOf_nodup t) hl]
  rw [List.getElem?_eq_getElem hk] at e
  exact Option.some.inj e

theorem free_canon_len (t : List C) : (freeOf (canonOf t)).length = (freeOf t).length := by rw [free_canon, List.length_map]

theorem canon_twice (t : List C) : canonOf (canonOf t) = canonOf t := by
  show (canonOf t).map (canonC (freeOf (canonOf t))) = canonOf t
  rw [free_canon]
  conv => lhs; rw [canon_ren]
  rw [List.map_map]
  conv => rhs; rw [canon_ren]
  apply List.map_congr_left
  intro c hc
  show canonC _ (ren _ c) = ren _ c
  by_cases h : c.k = 1
  · have e : ren (placeV (freeOf t)) c = ⟨c.k, placeV (freeOf t) c.n, c.s⟩ := by simp [ren, h]
    rw [e, canonC_var (c := ⟨c.k, placeV (freeOf t) c.n, c.s⟩) h]
    show (⟨c.k, placeV ((freeOf t).map (placeV (freeOf t))) (placeV (freeOf t) c.n), c.s⟩ : C) = _
    rw [placeV_on (S := fun x => x ∈ freeOf t) (fun x y hx hy e => placeV_inj (freeOf_nodup t) x y hx hy e) c.n (vars_in t c hc h) (freeOf t) (fun a ha => ha)]
  · have e : ren (placeV (freeOf t)) c = c := by simp [ren, h]
    rw [e, canonC_other h]

theorem ends_map {g : C → C} (hg : ∀ c, ari (g c) = ari c) : ∀ (t : List C) (m : Int), ends m (t.map g) = ends m t
  | [], m => rfl
  | c :: t, m => by simp only [List.map_cons, ends, hg c, ends_map hg t]

theorem placeV_in {z : List Int} (hz : z.Nodup) {x : Int} (hx : x ∈ z) : 0 ≤ placeV z x ∧ placeV z x < z.length := by
  obtain ⟨i, hi, rfl⟩ := List.getElem_of_mem hx
  rw [placeV_get hz hi]; omega

theorem trm_canon {t : List C} (h : trm t = true) : trm (canonOf t) = true := by
  have h0 := (trm_iff t).1 h
  refine (trm_iff _).2 ⟨by rw [canonOf_length]; exact h0.1, by rw [canonOf_length]; exact h0.2.1, fun d hd => ?_, ?_⟩
  · obtain ⟨c, hc, rfl⟩ := List.mem_map.1 hd
    have ho := h0.2.2.1 c hc
    by_cases h1 : c.k = 1
    · rw [canonC_var h1]
      have hp := placeV_in (freeOf_nodup t) (vars_in t c hc h1)
      have hl := freeOf_len t
      have hr := (okC1 h1).1 ho
      exact (okC1 (c := ⟨c.k, placeV (freeOf t) c.n, c.s⟩) h1).2 ⟨hp.1, by show placeV (freeOf t) c.n ≤ 99999; omega, hr.2.2⟩
    · rw [canonC_other h1]; exact ho
  · rw [canonOf_length]
    unfold canonOf
    rw [ends_map (fun c => by unfold canonC ari; split <;> simp_all)]
    exact h0.2.2.2

theorem wf_canon {t : List C} (hl : t.length ≤ 1048576) (h : WfC t) : WfC (canonOf t) := fun d hd => by
  obtain ⟨c, hc, rfl⟩ := List.mem_map.1 hd
  obtain ⟨h1, h2⟩ := h c hc
  unfold canonC
  split
  · rename_i hk
    have hp := placeV_in (freeOf_nodup t) (vars_in t c hc hk)
    have := freeOf_len t
    exact ⟨h1, show (Lit.int .i64 (placeV (freeOf t) c.n)).wf = true from WalkArith.wf_i64 (by omega)⟩
  · exact ⟨h1, h2⟩

theorem wf_trm {t : List C} (h : trm t = true) : WfC t := fun c hc => by
  have ho := ((trm_iff t).1 h).2.2.1 c hc
  unfold okC at ho
  split at ho
  · rename_i hk; simp at ho; exact ⟨by rw [hk]; decide, WalkArith.wf_i64 (by omega)⟩
  · split at ho
    · rename_i hk; simp at ho; exact ⟨by rw [hk]; decide, WalkArith.wf_i64 (by omega)⟩
    · split at ho
      · rename_i hk; simp at ho; exact ⟨by rw [hk]; decide, WalkArith.wf_i64 (by omega)⟩
      · cases ho

theorem fit_canon {t : List C} (h : Fit t) : Fit (canonOf t) := fun d hd => by
  obtain ⟨c, hc, rfl⟩ := List.mem_map.1 hd
  have := h c hc
  unfold canonC; split <;> exact this
end Go.Proofs.Ytddhjafpacgdaaa

/- Two terms of which each comes of the other are one but for how variables are numbered. -/
namespace Go.Proofs.Ytddhjafpacgdaaa
set_option linter.unusedVariables false
set_option linter.unusedSimpArgs false

theorem canonOf_on {f : Int → Int} {t : List C} (hf : ∀ x y, x ∈ freeOf t → y ∈ freeOf t → f x = f y → x = y) : canonOf (t.map (ren f)) = canonOf t := by
  show (t.map (ren f)).map (canonC (freeOf (t.map (ren f)))) = t.map (canonC (freeOf t))
  rw [freeOf_on (S := fun x => x ∈ freeOf t) hf t (vars_in t), List.map_map]
  apply List.map_congr_left
  intro c hc
  show canonC _ (ren _ c) = canonC _ c
  by_cases h : c.k = 1
  · have e : ren f c = ⟨c.k, f c.n, c.s⟩ := by simp [ren, h]
    rw [e, canonC_var (c := ⟨c.k, f c.n, c.s⟩) h, canonC_var h]
    show (⟨c.k, placeV ((freeOf t).map f) (f c.n), c.s⟩ : C) = _
    rw [placeV_on (S := fun x => x ∈ freeOf t) hf c.n (vars_in t c hc h) (freeOf t) (fun a ha => ha)]
  · have e : ren f c = c := by simp [ren, h]
    rw [e, canonC_other h, canonC_other h]

theorem var_inst {σ τ : Int → List C} (hσ : Tr σ) (hτ : Tr τ) : ∀ (u : List C), app τ (app σ u) = u → (∀ c ∈ u, okC c = true) → (∀ c ∈ app σ u, okC c = true) → app σ u = u.map (ren fun x => ((σ x).headD (vV 0)).n) ∧ ∀ c ∈ u, c.k = 1 → τ ((σ c.n).headD (vV 0)).n = [c]
  | [], _, _, _ => ⟨rfl, fun c hc => by simp at hc⟩
  | c :: u, e, ho, hp => by
      rw [app, app_append] at e
      have l1 : 1 ≤ (app τ (if c.k = 1 then σ c.n else [c])).length := by
        refine Nat.le_trans ?_ (app_len hτ _)
        split
        · exact hσ.ne c.n
        · simp
      have l2 : u.length ≤ (app τ (app σ u)).length := Nat.le_trans (app_len hσ u) (app_len hτ _)
      have l3 := congrArg List.length e
      rw [List.length_append, List.length_cons] at l3
      have l4 : (app τ (if c.k = 1 then σ c.n else [c])).length = [c].length := by simp; omega
      obtain ⟨e1, e2⟩ := List.append_inj (t₁ := app τ (app σ u)) (t₂ := u) (s₂ := [c]) (by rw [e]; rfl) l4
      rw [app] at hp
      obtain ⟨i1, i2⟩ := var_inst hσ hτ u e2 (fun d hd => ho d (by simp [hd])) (fun d hd => hp d (List.mem_append.2 (.inr hd)))
      by_cases hk : c.k = 1
      · rw [if_pos hk] at e1 hp
        have h1 := hσ.ne c.n
        have h2 := app_len hτ (σ c.n)
        rw [e1] at h2
        match hm : σ c.n, h1, h2 with
        | [d], _, _ =>
          rw [hm] at e1 hp
          have hdo := hp d (by simp)
          by_cases hd : d.k = 1
          · rw [app_var hd] at e1
            refine ⟨?_, fun x hx hxk => ?_⟩
            · rw [app, if_pos hk, hm, i1, List.map_cons]
              have : ren (fun x => ((σ x).headD (vV 0)).n) c = d := by
                have hcs := okC_vV (ho c (by simp)) hk
                have hds := okC_vV hdo hd
                simp only [ren, if_pos hk, hm, List.headD_cons]
                rw [hds, hcs]
                rfl
              rw [this]; rfl
            · rcases List.mem_cons.1 hx with rfl | hx
              · rw [hm]; exact e1
              · exact i2 x hx hxk
          · rw [app_cons hd] at e1
            have := (List.cons.inj e1).1
            rw [this] at hd
            exact absurd hk hd
        | _ :: _ :: _, _, h => simp at h
      · refine ⟨?_, fun x hx hxk => ?_⟩
        · rw [app_cons hk, i1, List.map_cons]
          have : ren (fun x => ((σ x).headD (vV 0)).n) c = c := by simp [ren, hk]
          rw [this]
        · rcases List.mem_cons.1 hx with rfl | hx
          · exact absurd hxk hk
          · exact i2 x hx hxk

/-- Each comes of the other: one but for variables' numbers. -/
theorem canon_inst {σ τ : Int → List C} (hσ : Tr σ) (hτ : Tr τ) {u v : List C} (e1 : v = app σ u) (e2 : u = app τ v) (hu : ∀ c ∈ u, okC c = true) (hv : ∀ c ∈ v, okC c = true) : canonOf u = canonOf v := by
  subst e1
  obtain ⟨h1, h2⟩ := var_inst hσ hτ u e2.symm hu hv
  rw [h1]
  refine (canonOf_on (fun x y hx hy e => ?_)).symm
  obtain ⟨c, hc, hk, rfl⟩ := (mem_freeOf u x).1 hx
  obtain ⟨d, hd, hk', rfl⟩ := (mem_freeOf u y).1 hy
  have a1 := h2 c hc hk
  have a2 := h2 d hd hk'
  rw [e, a2] at a1
  rw [(List.cons.inj a1).1]
end Go.Proofs.Ytddhjafpacgdaaa

/- What SubUnify tells of two terms either way, and of two pairs in either order. -/
namespace Go.Proofs.Ytddhjafpacgdaaa
set_option linter.unusedVariables false
set_option linter.unusedSimpArgs false

/-- Two bindings that respect each other tell of a term the same, but for variables' numbers. -/
theorem canon_two {x y : List B} {t : List C} (hx : subOk x = true) (hy : subOk y = true) (ht : trm t = true) (h1 : Sol (ev x) y) (h2 : Sol (ev y) x) : canonOf (app (ev x) t) = canonOf (app (ev y) t) ∧ (app (ev x) t).length = (app (ev y) t).length := by
  have ox := subOk_okB hx
  have oy := subOk_okB hy
  have ho := (trm_Trm ht).2
  obtain ⟨n1, hE1⟩ := exp_ev ox ho
  obtain ⟨n2, hE2⟩ := exp_ev oy ho
  have e1 := h2.ev ox ho
  have e2 := h1.ev oy ho
  refine ⟨canon_inst (ev_tr oy) (ev_tr ox) (u := app (ev x) t) (v := app (ev y) t) e1.symm e2.symm (exp_ok ox hE1 ho) (exp_ok oy hE2 ho), ?_⟩
  have l1 := Sol.ev_len (ev_tr oy) h2 ox ho
  have l2 := Sol.ev_len (ev_tr ox) h1 oy ho
  omega

theorem um_swap1 {s : List B} {a b : List C} {x y : List B} {h' : Int} (h1 : UM s a b x 1) (h2 : UM s b a y h') : h' = 1 ∧ Sol (ev x) y := by
  have d := um_done h1
  exact um_can (ev_tr (subOk_okB d.oko)) h2 d.oks d.tb d.ta d.sol d.same.symm (by rw [← d.same]; exact d.lz)
theorem um_swap2 {s : List B} {a b : List C} {x y : List B} {h' : Int} (h1 : UM s a b x 2) (h2 : UM s b a y h') : h' = 2 := by
  rcases um_ev h1 with ⟨e, _⟩ | ⟨⟨g1, g2, g3⟩, n, res, sf, hU, ⟨e, _⟩ | ⟨l1, l2, ⟨_, _, e⟩ | ⟨e, _⟩⟩⟩
  · omega
  · omega
  · subst e
    rcases um_ev h2 with ⟨_, _, hc⟩ | ⟨_, n', res', sf', hU', hc⟩
    · exact absurd ⟨g1, g3, g2⟩ hc
    · have no : ∀ s', res' = some s' → False := fun s' e => by
        have hs := subOk_okB g1
        have hp := prs_one g3 g2
        have hok := hU'.ok hs hp
        have hs' : OkB s' := by rw [hok.2.2 s' e]; exact hok.1
        have hso := sol_ev hs'
        have := uni_sound hU' hs hp s' e hso (b, a) (by simp)
        obtain ⟨⟨_, e2⟩, _⟩ := uni_most (ev_tr hs') hU hs (prs_one g2 g3) (hso.pre hs (by rw [hok.2.2 s' e]; exact hok.2.1)) (fun p hp => by simp at hp; subst hp; exact this.symm)
        cases e2
      rcases hc with ⟨_, _, hb⟩ | ⟨_, _, ⟨e, _⟩ | ⟨_, e, _⟩⟩
      · rcases hb with hb | ⟨s', e, _⟩
        · exact absurd ⟨l2, l1⟩ hb
        · exact absurd e (no s')
      · exact e
      · exact absurd e (no _)
  · omega

theorem um_swap {s : List B} {a b : List C} {x y : List B} {h h' : Int} (h1 : UM s a b x h) (h2 : UM s b a y h') : h = h' ∧ (h = 1 → (subOk x = true ∧ subOk y = true ∧ trm a = true ∧ (app (ev x) a).length ≤ 40 ∧ (app (ev y) a).length ≤ 40 ∧ canonOf (app (ev x) a) = canonOf (app (ev y) a))) := by
  have c1 := (um_codes h1).2
  have c2 := (um_codes h2).2
  have key : h = h' := by
    rcases c1 with ⟨e1, n1⟩ | ⟨o1, e1⟩
    · rcases c2 with ⟨e2, _⟩ | ⟨o2, _⟩
      · omega
      · exact absurd ⟨o2.1, o2.2.2, o2.2.1⟩ n1
    · rcases c2 with ⟨_, n2⟩ | ⟨o2, e2⟩
      · exact absurd ⟨o1.1, o1.2.2, o1.2.1⟩ n2
      · rcases e1 with rfl | rfl | rfl
        · exact (um_swap1 h1 h2).1.symm
        · exact (um_swap2 h1 h2).symm
        · rcases e2 with rfl | rfl | rfl
          · exact (um_swap1 h2 h1).1
          · exact um_swap2 h2 h1
          · rfl
  refine ⟨key, fun e => ?_⟩
  subst e
  subst key
  have d1 := um_done h1
  have d2 := um_done h2
  have s1 := (um_swap1 h1 h2).2
  have s2 := (um_swap1 h2 h1).2
  obtain ⟨e, l⟩ := canon_two d1.oko d2.oko d1.ta s1 s2
  exact ⟨d1.oko, d2.oko, d1.ta, d1.lz, by rw [← l]; exact d1.lz, e⟩

/-- One pair behind another. -/
theorem um_two1 {a b c d : List C} {x1 x y1 y : List B} {three four : Int} (h1 : UM [] a b x1 1) (h2 : UM x1 c d x 1) (h3 : UM [] c d y1 three) (h4 : three = 1 → UM y1 a b y four) : three = 3 ∨ (three = 1 ∧ (four = 3 ∨ (four = 1 ∧ Sol (ev x) y))) := by
  have d1 := um_done h1
  have d2 := um_done h2
  have hT := ev_tr (subOk_okB d2.oko)
  obtain ⟨n, hU⟩ := d1.un
  have eab := uni_sound hU (subOk_okB d1.oks) (prs_one d1.ta d1.tb) x1 rfl d2.sol (a, b) (by simp)
  have c3 := (um_codes h3).2
  have p3 := um_not_apart hT h3 (sol_nil _) d2.same
  rcases c3 with ⟨_, n3⟩ | ⟨o3, e3⟩
  · exact absurd ⟨subOk_none, d2.ta, d2.tb⟩ n3
  · rcases e3 with e3 | e3 | e3
    · subst e3
      have d3 := um_done h3
      have h4 := h4 rfl
      have p4 := um_not_apart hT h4 (p3.2 rfl) eab
      rcases (um_codes h4).2 with ⟨_, n4⟩ | ⟨o4, e4⟩
      · exact absurd ⟨d3.oko, d1.ta, d1.tb⟩ n4
      · rcases e4 with e4 | e4 | e4
        · exact .inr ⟨rfl, .inr ⟨e4, p4.2 e4⟩⟩
        · exact absurd e4 p4.1
        · exact .inr ⟨rfl, .inl e4⟩
    · exact absurd e3 p3.1
    · exact .inl e3
end Go.Proofs.Ytddhjafpacgdaaa

/- The walk of the program's TrmCanon. -/
namespace Go.Proofs.Ytddhjafpacgdaaa
open Go.RowKit Go.Maps
set_option linter.unusedVariables false
set_option linter.unusedSimpArgs false

theorem exists_first : ∀ (z : List Int) (x : Int), x ∈ z → ∃ k, ∃ h : k < z.length, z[k] = x ∧ x ∉ z.take k
  | a :: r, x, hm => by
      by_cases e : a = x
      · exact ⟨0, by simp, e, by simp⟩
      · have hr : x ∈ r := by
          rcases List.mem_cons.1 hm with h | h
          · exact absurd h.symm e
          · exact h
        obtain ⟨k, hk, h1, h2⟩ := exists_first r x hr
        refine ⟨k + 1, by simp; omega, h1, ?_⟩
        rw [List.take_succ_cons, List.mem_cons]
        rintro (h | h)
        · exact e h.symm
        · exact h2 h

theorem tab_place {z : List Int} {D : DataW Unit} {x : Int} (h : Tab z D) (hx : x ∈ z) (d : DataW Unit) : D.atKey (.int .i64 x) d = .lit (.int .i64 (placeV z x)) := by
  obtain ⟨k, hk, rfl, hn⟩ := exists_first z x hx
  rw [h.2.2 k hk d, placeV_first z z[k] k hk rfl hn]

theorem tab_get {z : List Int} {D : DataW Unit} {x cc : Int} (h : Tab z D) (hx : x ∈ z) (hat : D.atKey (.int .i64 x) (.lit (.int .i64 0)) = .lit (.int .i64 cc)) : placeV z x = cc := by
  rw [tab_place h hx] at hat
  simpa using hat

set_option maxHeartbeats 2000000 in
theorem TrmCanon_some (b off cap : Nat) (t : List C) (w : World) (hm : t.length ≤ 1048576) (hA : At w b off t) (hw : WfC t) :
    Calls Try.prog 25 #[.slice (some ⟨b, off, none⟩) t.length cap] w fun e w' => ∃ v, e = .returned v ∧ OwnC w' w.heap.size v (canonOf t) ∧ Below w.heap.size w w' := by
  obtain ⟨i0, hi, hz0, hz1, hz2⟩ := info_parts Try.infoCell
  have hfl := freeOf_len t
  have HM := hide (mem_freeOf t)
  go_enter Try.func25, Try.ntmps25
  go_wp2_with fail
  refine (numberVars_any _ _ t _ hm (.inr ⟨b, off, rfl, hA⟩) hw).mono ?_
  rintro e w0 ⟨v0, rfl, hv0, ⟨D, n, hn, hmap, hT⟩, hb0⟩
  obtain ⟨z, hz⟩ : ∃ z, z = freeOf t := ⟨_, rfl⟩
  rw [← hz] at hfl hT HM
  have HZ := hide hz
  have HT := hide hT
  clear hz hT hv0
  have hszm : w.heap.size < w0.heap.size := hmap.lt
  go_wp2
  go_loopw [5, 15] (fun o i wr => ∃ (k : Nat), k ≤ t.length ∧ i = .int .i64 k ∧ OwnC wr w0.heap.size o ((t.take k).map (canonC z)) ∧ Below w0.heap.size w0 wr) (fun _ i _ => t.length - (intOf i).toNat)
  case atStart => exact ⟨0, Nat.zero_le _, rfl, World.ownsRow_nil _ _ _ _, Below.refl _ _⟩
  case round =>
    obtain ⟨k, hk, rfl, hown, hB0⟩ := hrel
    have hB := bstep hb0 hB0
    by_cases hlt : k < t.length
    · obtain ⟨c0, c1, c2⟩ := (hA.below hB) k hlt
      have HS := hide (map_step z hlt)
      have hwf := (hw _ (List.getElem_mem hlt)).2
      have hin := hide (show t[k].k = 1 → t[k].n ∈ z from fun h => ((unhide HM) _).2 ⟨_, List.getElem_mem hlt, h, rfl⟩)
      have hmp := hmap.kept (grown_below (row := none) hB0) (by simp)
      obtain ⟨c, hc⟩ : ∃ c, c = t[k] := ⟨_, rfl⟩
      rw [← hc] at c0 c1 c2 HS hwf hin
      clear hc
      have hyl : ((t.take k).map (canonC z)).length ≤ 1048576 := by simp; omega
      obtain ⟨y, hy⟩ : ∃ y, y = (t.take k).map (canonC z) := ⟨_, rfl⟩
      rw [← hy] at hown HS hyl
      clear hy
      obtain ⟨ao, cp, rfl, _⟩ := hown.shape
      by_cases hk1 : c.k = 1
      · have hb : (c.k == 1) = true := by simpa using hk1
        have hmem := hide (unhide hin hk1)
        have HK := hide (canonC_var (z := z) hk1)
        clear hk1 hin
        go_wp2_with (first | (at_lookup; refine wpList_lookup_own_int _ rfl _ _ 72 rfl 3 3 .i64 (int_keyed Try.underlying3) Try.underlying72 Try.underlying3 (zeroInt _) w.heap.size n D rfl (World.ownsMap.alloc hmp _) _ _ rfl (keyOf_int_mk Try.underlying3 hwf) ?_; intro cc hat hwc; have HCC := hide (tab_get (unhide HT) (unhide hmem) hat); clear hat) | (at_builtin; refine wpList_append_own _ rfl _ _ 23 rfl w0.heap.size 36 i0 _ 3 32 Try.underlying23 hi hz0 hz1 hz2 rfl (by decide) _ _ _ rfl (World.ownsRow.alloc (World.ownsRow.alloc hown _) _) ⟨wr.heap.size + 1, 0, none⟩ 1 1 [.int .i64 c.k, .int .i64 cc, .string c.s] rfl rfl ?c1 ?c2 ?c3 ?c4 ?c5 ?_))
        case c1 =>
          intro j u hj
          have := cell_three_new (wr.alloc (.cells #[.int .i64 c.k, .int .i64 cc, .string c.s] 36)) _ _ _ 36 j u hj
          rw [World.size_alloc] at this
          exact this
        case c2 => intro u hu; simp at hu; rcases hu with rfl | rfl | rfl <;> rfl
        case c3 => unfold maxLen; omega
        case c4 => omega
        case c5 => have := hB0.size; simp; omega
        · intro v' w2 hown' hgrow _
          have R := app_cell (c := ⟨c.k, cc, c.s⟩) (hB0.alloc hB0.size _) (Nat.le_refl _) (World.ownsRow.alloc hown _) hown' hgrow
          clear hown' hgrow hown c0 c1 c2 hmp
          go_wp2
          go_roundw
          case rel => exact ⟨k + 1, by omega, by go_num, by rw [unhide HS, unhide HK, unhide HCC]; exact R.1, R.2⟩
          case measure => simp [intOf]; omega
      · have hb : (c.k == 1) = false := by simpa using hk1
        have HK := hide (canonC_other (z := z) hk1)
        clear hk1
        go_wp2_with (at_builtin; refine wpList_append_own _ rfl _ _ 23 rfl w0.heap.size 36 i0 _ 3 32 Try.underlying23 hi hz0 hz1 hz2 rfl (by decide) _ _ _ rfl (World.ownsRow.alloc (World.ownsRow.alloc hown _) _) ⟨wr.heap.size + 1, 0, none⟩ 1 1 [.int .i64 c.k, .int .i64 c.n, .string c.s] rfl rfl ?d1 ?d2 ?d3 ?d4 ?d5 ?_)
        case d1 =>
          intro j u hj
          have := cell_three_new (wr.alloc (.cells #[.int .i64 c.k, .int .i64 c.n, .string c.s] 36)) _ _ _ 36 j u hj
          rw [World.size_alloc] at this
          exact this
        case d2 => intro u hu; simp at hu; rcases hu with rfl | rfl | rfl <;> rfl
        case d3 => unfold maxLen; omega
        case d4 => omega
        case d5 => have := hB0.size; simp; omega
        · intro v' w2 hown' hgrow _
          have R := app_cell (c := c) (hB0.alloc hB0.size _) (Nat.le_refl _) (World.ownsRow.alloc hown _) hown' hgrow
          clear hown' hgrow hown c0 c1 c2 hmp
          go_wp2
          go_roundw
          case rel => exact ⟨k + 1, by omega, by go_num, by rw [unhide HS, unhide HK]; exact R.1, R.2⟩
          case measure => simp [intOf]; omega
    · rw [List.take_of_length_le (by omega)] at hown
      have hO := canon_done hown (unhide HZ) hb0.size
      go_wp2
      go_ret
      exact ⟨_, rfl, hO, hB⟩

set_option maxHeartbeats 400000 in
theorem TrmCanon_none (ao : Option Addr) (cap : Nat) (w : World) :
    Calls Try.prog 25 #[.slice ao 0 cap] w fun e w' => ∃ v, e = .returned v ∧ OwnC w' w.heap.size v (canonOf []) ∧ Below w.heap.size w w' := by
  go_enter Try.func25, Try.ntmps25
  go_wp2_with fail
  refine (numberVars_none _ _ _).mono ?_
  rintro e w0 ⟨v0, rfl, hv0, _, hb0⟩
  go_wp2
  refine wp_loop_rounds 1 ?_
  rw [rounds_succ]
  go_wp2
  go_ret
  exact ⟨_, rfl, World.ownsRow_nil _ _ _ _, hb0⟩

/-- The program's TrmCanon, of whatever places. -/
theorem TrmCanon_any (ao : Option Addr) (cap : Nat) (t : List C) (w : World) (hm : t.length ≤ 1048576) (hA : Row w ao t) (hw : WfC t) :
    Calls Try.prog 25 #[.slice ao t.length cap] w fun e w' => ∃ v, e = .returned v ∧ OwnC w' w.heap.size v (canonOf t) ∧ Below w.heap.size w w' := by
  rcases hA with rfl | ⟨b, off, rfl, hA⟩
  · exact TrmCanon_none ao cap w
  · exact TrmCanon_some b off cap t w hm hA hw
end Go.Proofs.Ytddhjafpacgdaaa
