import Derived.Test.YtonpahhcfgdeoaaDoorQYB1YB2W2W3
import Derived.Test.YtonpahhcfgdeoaaDoorQPlainW1MemMem2Mem3W9
/- The walks of the model's l1End and TrmOk. -/
namespace Go.Proofs.YtonpahhcfgdeoaaDoor
open Go.RowKit
set_option linter.unusedVariables false
set_option linter.unusedSimpArgs false

/-- Where the term that begins at a place ends; -1, if it does not. -/
def endV (t : List C) (p : Nat) : Int := match ends 1 (t.drop p) with
  | some e => (p : Int) + e
  | none => -1

theorem ends_step {t : List C} {j : Nat} (h : j < t.length) (m : Int) (hm : 0 < m) : ends m (t.drop j) = (ends (m - 1 + ari t[j]) (t.drop (j + 1))).map (· + 1) := by
  rw [List.drop_eq_getElem_cons h]; simp [ends]; omega
theorem ends_zero {t : List C} {j : Nat} (m : Int) (hm : m ≤ 0) : ends m (t.drop j) = some 0 := by
  cases t.drop j <;> simp [ends, hm]
theorem ends_none {t : List C} {j : Nat} (h : ¬ j < t.length) (m : Int) (hm : 0 < m) : ends m (t.drop j) = none := by
  rw [List.drop_eq_nil_iff.2 (by omega)]; simp [ends]; omega

theorem endV_step {t : List C} {p j : Nat} (hpj : p ≤ j) (h : j < t.length) (m : Int) (hm : 0 < m) (hg : ends 1 (t.drop p) = (ends m (t.drop j)).map (· + (j - p))) :
    ends 1 (t.drop p) = (ends (m - 1 + ari t[j]) (t.drop (j + 1))).map (· + (j + 1 - p)) := by
  rw [hg, ends_step h m hm, Option.map_map]
  congr 1
  funext x
  simp; omega

theorem endV_end {t : List C} {p j : Nat} (hpj : p ≤ j) (m : Int) (hm : m ≤ 0) (hg : ends 1 (t.drop p) = (ends m (t.drop j)).map (· + (j - p))) : endV t p = j := by
  unfold endV
  rw [hg, ends_zero m hm]
  simp; omega

theorem endV_none {t : List C} {p j : Nat} (h : ¬ j < t.length) (m : Int) (hm : 0 < m) (hg : ends 1 (t.drop p) = (ends m (t.drop j)).map (· + (j - p))) : endV t p = -1 := by
  unfold endV
  rw [hg, ends_none h m hm]
  rfl

set_option maxHeartbeats 1000000 in
theorem l1End_some (b off cap p : Nat) (t : List C) (w : World) (hm : t.length ≤ 40) (hp : p ≤ t.length) (hA : At w b off t) (hok : ∀ c ∈ t, okC c = true) :
    Calls Tryd.prog 46 #[.slice (some ⟨b, off, none⟩) t.length cap, .int .i64 p] w fun e w' => e = .returned (.int .i64 (endV t p)) ∧ w' = w := by
  have HO := hide hok
  clear hok
  go_enter Tryd.func46, Tryd.ntmps46
  go_wp2
  go_loop [5, 6] (fun o i => ∃ (j : Nat) (m : Int), p ≤ j ∧ j ≤ t.length ∧ i = .int .i64 j ∧ o = .int .i64 m ∧ 0 ≤ m ∧ m ≤ 1 + 3 * j ∧ ends 1 (t.drop p) = (ends m (t.drop j)).map (· + (j - p))) (fun _ i => t.length - (intOf i).toNat)
  case atStart => exact ⟨p, 1, Nat.le_refl _, hp, rfl, rfl, by omega, by omega, by simp⟩
  case round =>
    obtain ⟨j, m, hpj, hj, rfl, rfl, hm0, hm1, hg⟩ := hrel
    have H := hide hg
    clear hg
    by_cases hmp : 0 < m
    · by_cases hlt : j < t.length
      · obtain ⟨c0, c1, c2⟩ := hA j hlt
        have hari := ari_ok (unhide HO _ (List.getElem_mem hlt))
        obtain ⟨c, hc⟩ : ∃ c, c = t[j] := ⟨_, rfl⟩
        rw [← hc] at c0 c1 c2 hari
        have HC := hide hc
        clear hc
        by_cases h3 : c.k = 3
        · have hb : (c.k == 3) = true := by simpa using h3
          have ha : ari c = c.n := by simp [ari, h3]
          rw [ha] at hari
          have HA := hide ha
          clear ha h3
          go_wp2
          go_round
          case rel => exact ⟨j + 1, m - 1 + c.n, by omega, by omega, by go_num, by go_num, by omega, by omega, by rw [← unhide HA, unhide HC]; exact endV_step hpj hlt m hmp (unhide H)⟩
          case measure => simp [intOf]; omega
        · have hb : (c.k == 3) = false := by simpa using h3
          have ha : ari c = 0 := by simp [ari, h3]
          have HA := hide ha
          clear ha h3 hari
          go_wp2
          go_round
          case rel => exact ⟨j + 1, m - 1, by omega, by omega, by go_num, by go_num, by omega, by omega, by have := endV_step hpj hlt m hmp (unhide H); rw [← unhide HC, unhide HA, Int.add_zero] at this; exact this⟩
          case measure => simp [intOf]; omega
      · go_wp2
        go_ret
        exact ⟨ret_int (by rw [endV_none hlt m hmp (unhide H)]), rfl⟩
    · go_wp2
      go_ret
      exact ⟨ret_int (by rw [endV_end hpj m (by omega) (unhide H)]), rfl⟩

theorem endV_whole {t : List C} (h1 : 1 ≤ t.length) : endV t 0 = t.length ↔ ends 1 t = some t.length := by
  unfold endV
  rw [List.drop_zero]
  cases ends 1 t with
  | none => simp
  | some e => simp; omega

set_option maxHeartbeats 1000000 in
theorem specTrmOk_some (b off cap : Nat) (t : List C) (w : World) (hm : t.length ≤ maxLen) (hA : At w b off t) (hF : Fit t) :
    Calls Tryd.prog 28 #[.slice (some ⟨b, off, none⟩) t.length cap] w fun e w' => e = .returned (.bool (trm t)) ∧ Below w.heap.size w w' := by
  unfold maxLen at hm
  have HT := hide (trm_iff t)
  by_cases h0 : t.length = 0
  · have hz : ((t.length : Int) == 0) = true := by simp only [beq_iff_eq]; omega
    go_enter Tryd.func28, Tryd.ntmps28
    go_wp2
    go_ret
    exact ⟨ret_bool (iff_no (unhide HT) (by omega)), Below.refl _ _⟩
  · have hz : ((t.length : Int) == 0) = false := by rw [beq_eq_false_iff_ne]; omega
    by_cases h40 : t.length ≤ 40
    · go_enter Tryd.func28, Tryd.ntmps28
      go_wp2
      go_loopw [3] (fun i wr => ∃ (k : Nat), k ≤ t.length ∧ i = .int .i64 k ∧ (∀ j, (h : j < t.length) → j < k → okC t[j] = true) ∧ Below w.heap.size w wr) (fun i _ => t.length - (intOf i).toNat)
      case atStart => exact ⟨0, Nat.zero_le _, rfl, fun j _ h => absurd h (Nat.not_lt_zero _), Below.refl _ _⟩
      case round =>
        obtain ⟨k, hk, rfl, hg, hB⟩ := hrel
        have H := hide hg
        clear hg
        have hA' := hA.below hB
        by_cases hlt : k < t.length
        · obtain ⟨c0, c1, c2⟩ := hA' k hlt
          have hs := hF.get k hlt
          obtain ⟨c, hc⟩ : ∃ c, c = t[k] := ⟨_, rfl⟩
          rw [← hc] at c0 c1 c2 hs
          have HC := hide hc
          clear hc
          cases ho : okC c with
          | false =>
            go_wp2_with fail
            refine (l1Cell_any c _ hs).mono ?_
            rintro e w1 ⟨rfl, hb1⟩
            go_wp2
            go_ret
            refine ⟨ret_bool (iff_no (unhide HT) (fun h => ?_)), bstep hB hb1⟩
            have := h.2.2.1 _ (List.getElem_mem hlt)
            rw [← unhide HC, ho] at this
            cases this
          | true =>
            go_wp2_with fail
            refine (l1Cell_any c _ hs).mono ?_
            rintro e w1 ⟨rfl, hb1⟩
            clear c0 c1 c2
            go_wp2
            go_roundw
            case rel =>
              refine ⟨k + 1, by omega, by go_num, fun j hj hjk => ?_, bstep hB hb1⟩
              by_cases e : j = k
              · subst e; rw [← unhide HC]; exact ho
              · exact unhide H j hj (by omega)
            case measure => simp [intOf]; omega
        · have hall : ∀ c ∈ t, okC c = true := fun c hc => by
            obtain ⟨j, hj, rfl⟩ := List.mem_iff_getElem.1 hc
            exact unhide H j hj (by omega)
          have HALL := hide hall
          clear hall
          go_wp2_with fail
          refine (l1End_some b off cap 0 t _ h40 (Nat.zero_le _) hA' (unhide HALL)).mono ?_
          rintro e w1 ⟨rfl, rfl⟩
          go_wp2
          go_ret
          refine ⟨ret_bool ?_, hB⟩
          rw [Bool.eq_iff_iff, unhide HT, ← endV_whole (by omega)]
          simp only [beq_iff_eq]
          exact ⟨fun h => ⟨by omega, h40, unhide HALL, h⟩, fun h => h.2.2.2⟩
    · go_enter Tryd.func28, Tryd.ntmps28
      go_wp2
      go_ret
      exact ⟨ret_bool (iff_no (unhide HT) (by omega)), Below.refl _ _⟩

set_option maxHeartbeats 400000 in
theorem specTrmOk_none (ao : Option Addr) (cap : Nat) (w : World) :
    Calls Tryd.prog 28 #[.slice ao 0 cap] w fun e w' => e = .returned (.bool false) ∧ Below w.heap.size w w' := by
  go_enter Tryd.func28, Tryd.ntmps28
  go_wp2
  go_ret
  exact ⟨rfl, Below.refl _ _⟩

/-- The model's TrmOk, of whatever places: whether they are a term. -/
theorem specTrmOk_any (ao : Option Addr) (cap : Nat) (t : List C) (w : World) (hm : t.length ≤ maxLen) (hA : Row w ao t) (hF : Fit t) :
    Calls Tryd.prog 28 #[.slice ao t.length cap] w fun e w' => e = .returned (.bool (trm t)) ∧ Below w.heap.size w w' := by
  rcases hA with rfl | ⟨b, off, rfl, hA⟩
  · rw [trm_nil]; exact specTrmOk_none ao cap w
  · exact specTrmOk_some b off cap t w hm hA hF
end Go.Proofs.YtonpahhcfgdeoaaDoor

/- The plain mathematics of terms as trees: a place, and as many terms behind it as it has arguments. -/
namespace Go.Proofs.YtonpahhcfgdeoaaDoor
set_option linter.unusedSimpArgs false
set_option linter.unusedVariables false

/-- Places are one tree, no higher than f. -/
def Tm : Nat → List C → Prop
  | 0, _ => False
  | f + 1, t => ∃ (c : C) (ks : List (List C)), t = c :: ks.flatten ∧ (ks.length : Int) = ari c ∧ ∀ k ∈ ks, Tm f k

theorem Tm.mono : ∀ {f g : Nat} {t : List C}, Tm f t → f ≤ g → Tm g t
  | f + 1, g + 1, t, ⟨c, ks, e, hl, hk⟩, h => ⟨c, ks, e, hl, fun k hm => (hk k hm).mono (by omega)⟩

theorem Tm.pos : ∀ {f : Nat} {t : List C}, Tm f t → 1 ≤ t.length
  | f + 1, t, ⟨c, ks, e, hl, hk⟩ => by rw [e]; simp

theorem ends_trees : ∀ (t : List C) (m : Nat) (j : Nat), (∀ c ∈ t, 0 ≤ ari c) → ends m t = some j → ∃ ks : List (List C), ks.length = m ∧ ks.flatten = t.take j ∧ ∀ k ∈ ks, Tm t.length k
  | [], m, j, _, h => by
      by_cases hm : (m : Int) ≤ 0
      · exact ⟨[], by simp; omega, by simp, by simp⟩
      · simp [ends, hm] at h; omega
  | c :: r, m, j, ha, h => by
      by_cases hm : (m : Int) ≤ 0
      · have hm0 : m = 0 := by omega
        subst hm0
        simp [ends] at h
        exact ⟨[], by simp, by simp [← h], by simp⟩
      · simp only [ends, if_neg hm, Option.map_eq_some_iff] at h
        obtain ⟨j', hj, rfl⟩ := h
        have hc := ha c (by simp)
        obtain ⟨a, hae⟩ : ∃ a : Nat, (a : Int) = ari c := ⟨(ari c).toNat, by omega⟩
        rw [← hae, show (m : Int) - 1 + a = ((m - 1 + a : Nat) : Int) by omega] at hj
        obtain ⟨ks, hl, hf, hk⟩ := ends_trees r (m - 1 + a) j' (fun c' h' => ha c' (by simp [h'])) hj
        refine ⟨(c :: (ks.take a).flatten) :: ks.drop a, by simp; omega, ?_, ?_⟩
        · rw [List.flatten_cons, List.take_succ_cons, ← hf, List.cons_append, ← List.flatten_append, List.take_append_drop]
        · intro k hkm
          rcases List.mem_cons.1 hkm with rfl | hkm
          · exact ⟨c, ks.take a, rfl, by rw [List.length_take, ← hae]; omega, fun k' h' => hk k' (List.mem_of_mem_take h')⟩
          · exact (hk k (List.mem_of_mem_drop hkm)).mono (by simp)

theorem trm_tree {t : List C} (h : trm t = true) : Tm t.length t := by
  obtain ⟨h1, h2, h3, h4⟩ := (trm_iff t).1 h
  obtain ⟨ks, hl, hf, hk⟩ := ends_trees t 1 t.length (fun c hc => (ari_ok (h3 c hc)).1) h4
  match ks, hl with
  | [k], _ =>
    simp at hf
    subst hf
    exact hk k (by simp)

theorem ends_of_tree : ∀ (f : Nat) (t : List C), Tm f t → ∀ (m : Nat) (r : List C), ends (m + 1) (t ++ r) = (ends m r).map (· + t.length)
  | f + 1, t, ⟨c, ks, e, hl, hk⟩, m, r => by
      have all : ∀ (ks : List (List C)), (∀ k ∈ ks, Tm f k) → ∀ (m : Nat), ends ((m + ks.length : Nat) : Int) (ks.flatten ++ r) = (ends m r).map (· + ks.flatten.length) := by
        intro ks
        induction ks with
        | nil => intro _ m; simp
        | cons k ks ih =>
          intro hk m
          have e1 := ends_of_tree f k (hk k (by simp)) (m + ks.length) (ks.flatten ++ r)
          have e2 := ih (fun k' h' => hk k' (by simp [h'])) m
          rw [List.flatten_cons, List.append_assoc, List.length_cons, show ((m + (ks.length + 1) : Nat) : Int) = ((m + ks.length : Nat) : Int) + 1 by omega, e1, e2, Option.map_map, List.length_append]
          congr 1
          funext x
          simp; omega
      subst e
      rw [List.cons_append]
      simp only [ends]
      rw [if_neg (by omega), show (m : Int) + 1 - 1 + ari c = ((m + ks.length : Nat) : Int) by omega, all ks hk m, Option.map_map]
      congr 1

theorem tree_trm {f : Nat} {t : List C} (h : Tm f t) (hl : t.length ≤ 40) (ho : ∀ c ∈ t, okC c = true) : trm t = true := by
  refine (trm_iff t).2 ⟨h.pos, hl, ho, ?_⟩
  have := ends_of_tree f t h 0 []
  simp [ends] at this
  exact this

/-- Terms one behind another are told apart by where they end. -/
theorem trees_one : ∀ {f : Nat} (ks ks' : List (List C)), (∀ k ∈ ks, Tm f k) → (∀ k ∈ ks', Tm f k) → ks.flatten = ks'.flatten → ks = ks'
  | f, [], [], _, _, _ => rfl
  | f, [], k :: ks', _, h, e => by
      have h1 := (h k (by simp)).pos
      have h2 := congrArg List.length e
      rw [List.flatten_cons, List.length_append] at h2
      simp only [List.flatten_nil, List.length_nil] at h2
      omega
  | f, k :: ks, [], h, _, e => by
      have h1 := (h k (by simp)).pos
      have h2 := congrArg List.length e
      rw [List.flatten_cons, List.length_append] at h2
      simp only [List.flatten_nil, List.length_nil] at h2
      omega
  | f, k :: ks, k' :: ks', h, h', e => by
      have e1 := ends_of_tree f k (h k (by simp)) 0 ks.flatten
      have e2 := ends_of_tree f k' (h' k' (by simp)) 0 ks'.flatten
      rw [List.flatten_cons, List.flatten_cons] at e
      rw [e, e2] at e1
      have z : ∀ r, ends (0 : Nat) r = some 0 := fun r => by cases r <;> simp [ends]
      rw [z, z] at e1
      simp at e1
      obtain ⟨rfl, e3⟩ := List.append_inj e e1.symm
      rw [trees_one ks ks' (fun q hq => h q (by simp [hq])) (fun q hq => h' q (by simp [hq])) e3]
end Go.Proofs.YtonpahhcfgdeoaaDoor

/- The plain mathematics of bindings: what a variable is bound to, what leads where, what is full. -/
namespace Go.Proofs.YtonpahhcfgdeoaaDoor
set_option linter.unusedVariables false
set_option linter.unusedSimpArgs false

/-- A binding: a variable, and what it is bound to. -/
structure B where
  v : Int
  t : List C

/-- What a variable is bound to; none, if it is not. -/
def getB : List B → Int → List C
  | [], _ => []
  | x :: r, v => if x.v = v then x.t else getB r v

theorem getB_hit {s : List B} {v : Int} {k : Nat} (hk : k < s.length) (hv : s[k].v = v) (hn : ∀ j, (h : j < k) → (s[j]'(by omega)).v ≠ v) : getB s v = s[k].t := by
  induction s generalizing k with
  | nil => simp at hk
  | cons x r ih =>
    cases k with
    | zero => simp at hv ⊢; simp [getB, hv]
    | succ k =>
      have h0 := hn 0 (by omega)
      simp at h0
      simp only [getB, if_neg h0, List.getElem_cons_succ]
      exact ih (by simpa using hk) (by simpa using hv) (fun j h => by have := hn (j + 1) (by omega); simpa using this)

theorem getB_none {s : List B} {v : Int} (hn : ∀ x ∈ s, x.v ≠ v) : getB s v = [] := by
  induction s with
  | nil => rfl
  | cons x r ih => simp only [getB, if_neg (hn x (by simp))]; exact ih (fun y hy => hn y (by simp [hy]))

theorem getB_mem {s : List B} {v : Int} (h : getB s v ≠ []) : ∃ x ∈ s, x.v = v ∧ x.t = getB s v := by
  induction s with
  | nil => exact absurd rfl h
  | cons x r ih =>
    by_cases e : x.v = v
    · exact ⟨x, by simp, e, by simp [getB, e]⟩
    · simp only [getB, if_neg e] at h ⊢
      obtain ⟨y, hy, h1, h2⟩ := ih h
      exact ⟨y, by simp [hy], h1, h2⟩

/-- No variable twice. -/
def Once (s : List B) : Prop := (s.map (·.v)).Nodup

theorem getB_of {s : List B} (h : Once s) {x : B} (hx : x ∈ s) : getB s x.v = x.t := by
  induction s with
  | nil => simp at hx
  | cons y r ih =>
    simp only [Once, List.map_cons, List.nodup_cons] at h
    rcases List.mem_cons.1 hx with rfl | hx
    · simp [getB]
    · have : y.v ≠ x.v := fun e => h.1 (by rw [e]; exact List.mem_map.2 ⟨x, hx, rfl⟩)
      simp only [getB, if_neg this]
      exact ih h.2 hx

theorem getB_append {s r : List B} {v : Int} : getB (s ++ r) v = if v ∈ s.map (·.v) then getB s v else getB r v := by
  induction s with
  | nil => simp
  | cons x s ih =>
    simp only [List.cons_append, getB, List.map_cons, List.mem_cons]
    by_cases e : x.v = v
    · simp [e]
    · have e' : v ≠ x.v := fun h => e h.symm
      simp only [if_neg e, ih, e', false_or]

/-- A variable stands among places. -/
def varIn (t : List C) (v : Int) : Prop := ∃ c ∈ t, c.k = 1 ∧ c.n = v

theorem varIn_nil (v : Int) : ¬ varIn [] v := fun ⟨c, h, _⟩ => by simp at h
theorem varIn_cons {c : C} {t : List C} {v : Int} : varIn (c :: t) v ↔ (c.k = 1 ∧ c.n = v) ∨ varIn t v := by
  constructor
  · rintro ⟨d, hd, h⟩
    rcases List.mem_cons.1 hd with rfl | hd
    · exact .inl h
    · exact .inr ⟨d, hd, h⟩
  · rintro (h | ⟨d, hd, h⟩)
    · exact ⟨c, by simp, h⟩
    · exact ⟨d, by simp [hd], h⟩
theorem varIn_append {t u : List C} {v : Int} : varIn (t ++ u) v ↔ varIn t v ∨ varIn u v := by
  constructor
  · rintro ⟨d, hd, h⟩
    rcases List.mem_append.1 hd with hd | hd
    · exact .inl ⟨d, hd, h⟩
    · exact .inr ⟨d, hd, h⟩
  · rintro (⟨d, hd, h⟩ | ⟨d, hd, h⟩)
    · exact ⟨d, by simp [hd], h⟩
    · exact ⟨d, by simp [hd], h⟩

/-- A variable can be come to from places. -/
inductive Reach (s : List B) (t : List C) : Int → Prop
  | here {v : Int} : varIn t v → Reach s t v
  | step {u v : Int} : Reach s t u → varIn (getB s u) v → Reach s t v

theorem Reach.mono {s : List B} {t u : List C} (h : ∀ v, varIn t v → Reach s u v) {v : Int} (hr : Reach s t v) : Reach s u v := by
  induction hr with
  | here h1 => exact h _ h1
  | step _ h2 ih => exact .step ih h2

/-- Each bound variable stands above the bound ones in what it is bound to. -/
def Ranked (s : List B) (ρ : Int → Nat) : Prop := ∀ v u, varIn (getB s v) u → getB s u ≠ [] → ρ u < ρ v

/-- No variable leads to itself. -/
def NoRing (s : List B) : Prop := ∀ v, getB s v ≠ [] → ¬ Reach s (getB s v) v

theorem ne_of_varIn {t : List C} {v : Int} (h : varIn t v) : t ≠ [] := fun e => by subst e; exact varIn_nil v h

theorem ranked_reach {s : List B} {ρ : Int → Nat} (h : Ranked s ρ) {w v : Int} (hr : Reach s (getB s w) v) : getB s v ≠ [] → ρ v < ρ w := by
  induction hr with
  | here h1 => exact fun h2 => h _ _ h1 h2
  | step _ h2 ih => exact fun h3 => Nat.lt_trans (h _ _ h2 h3) (ih (ne_of_varIn h2))

theorem ranked_noRing {s : List B} {ρ : Int → Nat} (h : Ranked s ρ) : NoRing s := fun v hv hr => Nat.lt_irrefl _ (ranked_reach h hr hv)

/-- What places are with all that is bound laid in, in so many steps. -/
inductive Exp (s : List B) : Nat → List C → List C → Prop
  | nil : Exp s 0 [] []
  | keep {n : Nat} {c : C} {r r' : List C} : (c.k = 1 → getB s c.n = []) → Exp s n r r' → Exp s (n + 1) (c :: r) (c :: r')
  | sub {m n : Nat} {c : C} {r r' b : List C} : c.k = 1 → getB s c.n ≠ [] → Exp s m (getB s c.n) b → Exp s n r r' → Exp s (m + n + 1) (c :: r) (b ++ r')

theorem Exp.append {s : List B} {m n : Nat} {a a' b b' : List C} (h : Exp s m a a') (k : Exp s n b b') : Exp s (m + n) (a ++ b) (a' ++ b') := by
  induction h with
  | nil => simpa using k
  | keep hc _ ih => rw [List.cons_append, List.cons_append, show ∀ x : Nat, x + 1 + n = x + n + 1 by intro x; omega]; exact .keep hc ih
  | @sub m n' c r r' b1 h1 h2 h3 _ _ ih =>
    rw [List.cons_append, List.append_assoc, show m + n' + 1 + n = m + (n' + n) + 1 by omega]
    exact .sub h1 h2 h3 ih

theorem Exp.det {s : List B} {m : Nat} {a a' : List C} (h : Exp s m a a') : ∀ {n : Nat} {a'' : List C}, Exp s n a a'' → a' = a'' ∧ m = n := by
  induction h with
  | nil => intro n a'' k; cases k; exact ⟨rfl, rfl⟩
  | keep hc _ ih =>
    intro n a'' k
    cases k with
    | keep _ k => obtain ⟨e1, e2⟩ := ih k; exact ⟨by rw [e1], by omega⟩
    | sub k1 k2 _ _ => exact absurd (hc k1) k2
  | sub h1 h2 _ _ ih1 ih2 =>
    intro n a'' k
    cases k with
    | keep kc _ => exact absurd (kc h1) h2
    | sub _ _ k3 k4 =>
      obtain ⟨e1, e2⟩ := ih1 k3
      obtain ⟨e3, e4⟩ := ih2 k4
      exact ⟨by rw [e1, e3], by omega⟩

/-- What is laid in has no fewer places, and none where there was none. -/
theorem Exp.len {s : List B} {m : Nat} {a a' : List C} (h : Exp s m a a') : a.length ≤ a'.length := by
  induction h with
  | nil => simp
  | keep _ _ ih => simp; omega
  | sub h1 h2 h3 _ ih1 ih2 =>
    rw [List.length_cons, List.length_append]
    have : 1 ≤ (getB s _).length := List.length_pos_iff.2 h2
    omega

theorem Exp.steps {s : List B} {m : Nat} {a a' : List C} (h : Exp s m a a') : a.length ≤ m := by
  induction h with
  | nil => simp
  | keep _ _ ih => simp; omega
  | sub _ _ _ _ _ ih => simp; omega

/-- Nothing that is full is bound. -/
theorem Exp.free {s : List B} {m : Nat} {a a' : List C} (h : Exp s m a a') : ∀ c ∈ a', c.k = 1 → getB s c.n = [] := by
  induction h with
  | nil => simp
  | keep hc _ ih =>
    intro c hm hk
    rcases List.mem_cons.1 hm with rfl | hm
    · exact hc hk
    · exact ih c hm hk
  | sub _ _ _ _ ih1 ih2 =>
    intro c hm hk
    rcases List.mem_append.1 hm with hm | hm
    · exact ih1 c hm hk
    · exact ih2 c hm hk

theorem Exp.self {s : List B} : ∀ {a : List C}, (∀ c ∈ a, c.k = 1 → getB s c.n = []) → Exp s a.length a a
  | [], _ => .nil
  | c :: a, h => .keep (h c (by simp)) (Exp.self (fun d hd => h d (by simp [hd])))

theorem exp_ranked {s : List B} {ρ : Int → Nat} (h : Ranked s ρ) : ∀ (r : Nat) (t : List C), (∀ v, varIn t v → getB s v ≠ [] → ρ v < r) → ∃ n t', Exp s n t t' := by
  intro r
  induction r with
  | zero =>
    intro t ht
    exact ⟨_, _, Exp.self (fun c hc hk => Classical.byContradiction fun hn => absurd (ht c.n ⟨c, hc, hk, rfl⟩ hn) (Nat.not_lt_zero _))⟩
  | succ r ih =>
    intro t
    induction t with
    | nil => intro _; exact ⟨0, [], .nil⟩
    | cons c t iht =>
      intro ht
      obtain ⟨n, t', hE⟩ := iht (fun v hv => ht v (varIn_cons.2 (.inr hv)))
      by_cases hk : c.k = 1
      · by_cases hb : getB s c.n = []
        · exact ⟨_, _, .keep (fun _ => hb) hE⟩
        · have hc := ht c.n (varIn_cons.2 (.inl ⟨hk, rfl⟩)) hb
          obtain ⟨m, b, hb'⟩ := ih (getB s c.n) (fun v hv hn => by have := h c.n v hv hn; omega)
          exact ⟨_, _, .sub hk hb hb' hE⟩
      · exact ⟨_, _, .keep (fun h' => absurd h' hk) hE⟩

/-- A bound on the ranks of all variables of places. -/
theorem rank_bound (ρ : Int → Nat) : ∀ t : List C, ∃ r, ∀ v, varIn t v → ρ v < r
  | [] => ⟨0, fun v h => absurd h (varIn_nil v)⟩
  | c :: t => by
      obtain ⟨r, hr⟩ := rank_bound ρ t
      refine ⟨max r (ρ c.n + 1), fun v hv => ?_⟩
      rcases varIn_cons.1 hv with ⟨_, rfl⟩ | hv
      · omega
      · have := hr v hv; omega

theorem exp_all {s : List B} {ρ : Int → Nat} (h : Ranked s ρ) (t : List C) : ∃ n t', Exp s n t t' := by
  obtain ⟨r, hr⟩ := rank_bound ρ t
  exact exp_ranked h r t (fun v hv _ => hr v hv)

/-- What SubFull is of ok bindings and a term. -/
noncomputable def fullOk (s : List B) (t : List C) : Option (List C) := by
  classical
  exact if h : ∃ n t', Exp s n t t' then (if (Classical.choose (Classical.choose_spec h)).length ≤ 40 then some (Classical.choose (Classical.choose_spec h)) else none) else none

theorem fullOk_of {s : List B} {n : Nat} {t t' : List C} (h : Exp s n t t') : fullOk s t = if t'.length ≤ 40 then some t' else none := by
  have hx : ∃ n t', Exp s n t t' := ⟨n, t', h⟩
  unfold fullOk
  rw [dif_pos hx]
  have e := (Classical.choose_spec (Classical.choose_spec hx)).det h
  rw [e.1]
end Go.Proofs.YtonpahhcfgdeoaaDoor
