/- The plain mathematics of terms, more: variables under other numbers. -/
import Derived.Test.YtddhjafpacgdaaaW15
namespace Go.Proofs.Ytddhjafpacgdaaa
set_option linter.unusedVariables false
set_option linter.unusedSimpArgs false

/-- Places with each variable's number turned. -/
def ren (f : Int → Int) (c : C) : C := if c.k = 1 then ⟨c.k, f c.n, c.s⟩ else c

theorem ren_k (f : Int → Int) (c : C) : (ren f c).k = c.k := by unfold ren; split <;> rfl
theorem mem_map_inj {f : Int → Int} (hf : ∀ x y, f x = f y → x = y) (z : List Int) (x : Int) : f x ∈ z.map f ↔ x ∈ z := by
  rw [List.mem_map]
  constructor
  · rintro ⟨y, hy, e⟩
    rw [← hf _ _ e]; exact hy
  · exact fun h => ⟨x, h, rfl⟩

theorem addV_ren {f : Int → Int} (hf : ∀ x y, f x = f y → x = y) (acc : List Int) (c : C) : addV (acc.map f) (ren f c) = (addV acc c).map f := by
  by_cases h : c.k = 1
  · have e : ren f c = ⟨c.k, f c.n, c.s⟩ := by simp [ren, h]
    rw [e]
    by_cases hn : c.n ∈ acc
    · rw [addV_old hn, addV_old (c := ⟨c.k, f c.n, c.s⟩) (by show f c.n ∈ _; rw [mem_map_inj hf]; exact hn)]
    · rw [addV_new h hn, addV_new (c := ⟨c.k, f c.n, c.s⟩) h (by show f c.n ∉ _; rw [mem_map_inj hf]; exact hn)]; simp
  · have e : ren f c = c := by simp [ren, h]
    rw [e, addV_other h, addV_other h]
theorem fold_ren {f : Int → Int} (hf : ∀ x y, f x = f y → x = y) : ∀ (t : List C) (acc : List Int), (t.map (ren f)).foldl addV (acc.map f) = (t.foldl addV acc).map f
  | [], acc => rfl
  | c :: t, acc => by
      rw [List.map_cons, List.foldl_cons, List.foldl_cons, addV_ren hf, fold_ren hf t]
theorem freeOf_ren {f : Int → Int} (hf : ∀ x y, f x = f y → x = y) (t : List C) : freeOf (t.map (ren f)) = (freeOf t).map f := fold_ren hf t []

theorem placeV_map {f : Int → Int} (hf : ∀ x y, f x = f y → x = y) (x : Int) : ∀ z : List Int, placeV (z.map f) (f x) = placeV z x
  | [] => rfl
  | a :: r => by
      have ih := placeV_map hf x r
      simp only [List.map_cons, placeV, ih]
      by_cases h : a = x
      · simp [h]
      · rw [if_neg (fun e => h (hf _ _ e)), if_neg h]

theorem canonC_ren {f : Int → Int} (hf : ∀ x y, f x = f y → x = y) (z : List Int) (c : C) : canonC (z.map f) (ren f c) = canonC z c := by
  by_cases h : c.k = 1
  · have e : ren f c = ⟨c.k, f c.n, c.s⟩ := by simp [ren, h]
    rw [e, canonC_var h, canonC_var (c := ⟨c.k, f c.n, c.s⟩) h, placeV_map hf]
  · have e : ren f c = c := by simp [ren, h]
    rw [e, canonC_other h, canonC_other h]

/-- How variables are numbered makes no difference. -/
theorem canonOf_ren {f : Int → Int} (hf : ∀ x y, f x = f y → x = y) (t : List C) : canonOf (t.map (ren f)) = canonOf t := by
  unfold canonOf
  rw [freeOf_ren hf, List.map_map]
  apply List.map_congr_left
  intro c _
  exact canonC_ren hf _ c

/-- Numbers turned about in pairs. -/
def sw (n : Int) : Int := if n % 2 = 0 then n + 1 else n - 1
theorem sw_inj (x y : Int) (h : sw x = sw y) : x = y := by
  unfold sw at h
  split at h <;> split at h <;> omega

def renC (c : C) : C := if c.k = 1 then (if c.n < 99999 then ⟨c.k, sw c.n, c.s⟩ else c) else c

theorem renC_ren {c : C} (h : c.k = 1 → c.n < 99999) : renC c = ren sw c := by
  unfold renC ren
  by_cases h1 : c.k = 1
  · rw [if_pos h1, if_pos h1, if_pos (h h1)]
  · rw [if_neg h1, if_neg h1]

theorem map_renC {t : List C} (h : ∀ c ∈ t, c.k = 1 → c.n < 99999) : t.map renC = t.map (ren sw) := List.map_congr_left (fun c hc => renC_ren (h c hc))

/-- The first k places turned, the others as they were. -/
def mix (t : List C) (k : Nat) : List C := (t.take k).map renC ++ t.drop k
theorem mix_length (t : List C) (k : Nat) : (mix t k).length = t.length := by simp [mix]; omega
theorem mix_zero (t : List C) : mix t 0 = t := by simp [mix]
theorem mix_all (t : List C) : mix t t.length = t.map renC := by simp [mix]
theorem mix_get {t : List C} {k : Nat} (h : k < t.length) : (mix t k)[k]'(by rw [mix_length]; exact h) = t[k] := by
  unfold mix
  rw [List.getElem_append_right (by simp; omega)]
  have e : k - ((t.take k).map renC).length = 0 := by simp; omega
  simp only [e, List.getElem_drop, Nat.add_zero]
theorem mix_set {t : List C} {k : Nat} (h : k < t.length) : (mix t k).set k (renC t[k]) = mix t (k + 1) := by
  unfold mix
  have hl : ((t.take k).map renC).length = k := by simp; omega
  rw [List.set_append_right _ _ (by omega), hl, Nat.sub_self, List.drop_eq_getElem_cons h, List.set_cons_zero, List.take_succ_eq_append_getElem h, List.map_append, List.append_assoc]
  rfl
theorem renC_id {c : C} (h : ¬ (c.k = 1 ∧ c.n < 99999)) : renC c = c := by
  unfold renC
  by_cases h1 : c.k = 1
  · rw [if_pos h1, if_neg (fun h2 => h ⟨h1, h2⟩)]
  · rw [if_neg h1]
theorem mix_same {t : List C} {k : Nat} (h : k < t.length) (hc : renC t[k] = t[k]) : mix t (k + 1) = mix t k := by
  rw [← mix_set h, hc]
  apply List.ext_getElem
  · simp
  · intro i h1 h2
    rw [List.getElem_set]
    split
    · rename_i e; subst e; rw [mix_get h]
    · rfl
end Go.Proofs.Ytddhjafpacgdaaa
