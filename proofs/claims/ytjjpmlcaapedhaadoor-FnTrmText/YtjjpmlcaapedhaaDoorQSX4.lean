/- The specification's reader of texts: steps of its machine, and what it owns. -/
import Derived.Test.YtjjpmlcaapedhaaDoorQSX3
import Derived.Test.YtjjpmlcaapedhaaDoorQRR7
import Derived.Test.YtjjpmlcaapedhaaDoorQTX8PF1BT2
namespace Go.Proofs.YtjjpmlcaapedhaaDoor
open Go.RowKit
set_option linter.unusedVariables false
set_option linter.unusedSimpArgs false

theorem bump_snoc (t : List C) (op : List Nat) (x : Nat) (hx : x < t.length) : bump t (op ++ [x]) = t.set x ⟨t[x].k, t[x].n + 1, t[x].s⟩ := by
  unfold bump
  rw [List.getLast?_concat]
  simp only
  apply List.ext_getElem
  · simp
  · intro i h1 h2
    rw [List.getElem_modify, List.getElem_set]
    by_cases e : x = i
    · subst e; simp
    · simp [e]
theorem bump_nil (t : List C) : bump t [] = t := by simp [bump]

theorem own_types4 {w : World} {base e1 e2 s1 s2 n1 n2 : Nat} {v1 v2 : Value} {x1 x2 : List Value} (h1 : w.ownsRow base e1 s1 v1 n1 x1) (h2 : w.ownsRow base e2 s2 v2 n2 x2) (he : e1 ≠ e2) : ∀ g, v1.ownBlock = some g → v2.ownBlock ≠ some g := by
  intro g g1 g2
  rcases h1.2 with ⟨rfl, _⟩ | ⟨a, c, cur, rfl, _, hb, _⟩
  · simp [Value.ownBlock] at g1
  · rcases h2.2 with ⟨rfl, _⟩ | ⟨a', c', cur', rfl, _, hb', _⟩
    · simp [Value.ownBlock] at g2
    · have e1 : a = g := by simpa [Value.ownBlock] using g1
      have e2 : a' = g := by simpa [Value.ownBlock] using g2
      subst e1 e2
      rw [hb] at hb'
      simp only [Option.some.injEq, Obj.cells.injEq] at hb'
      exact he hb'.2.1

/-- A row that is apart from a block that was written to, or made longer. -/
theorem own_other {w w' : World} {base e size n : Nat} {v : Value} {xs : List Value} {o : Option Nat} (h : w.ownsRow base e size v n xs) (hg : w.grownBy w' o) (hn : ∀ k, o = some k → v.ownBlock ≠ some k) : w'.ownsRow base e size v n xs := by
  rcases h.2 with ⟨e1, e2⟩ | ⟨a, c, cur, e1, hb, hc, r⟩
  · exact ⟨h.1, .inl ⟨e1, e2⟩⟩
  · refine ⟨h.1, .inr ⟨a, c, cur, e1, hb, ?_, r⟩⟩
    have hlt : a < w.heap.size := (Array.getElem?_eq_some_iff.1 hc).1
    rw [hg.block a hlt (fun k => hn a k.symm (by subst e1; rfl))]
    exact hc

theorem ownC_bump {W : World} {base g cp x : Nat} {t : List C} {o : Value} {op : List Nat} {z : List Int} (hx : x < t.length) (hO : OwnC W base (.slice (some ⟨g, 0, none⟩) t.length cp) t) (hI : OwnI W base o z) :
    OwnC (W.setCell ⟨g, x * 3 + 1, none⟩ (.int .i64 (t[x].n + 1))) base (.slice (some ⟨g, 0, none⟩) t.length cp) (bump t (op ++ [x])) ∧ OwnI (W.setCell ⟨g, x * 3 + 1, none⟩ (.int .i64 (t[x].n + 1))) base o z := by
  have hst := hO.stored (x * 3 + 1) (.int .i64 (t[x].n + 1))
  refine ⟨?_, ?_⟩
  · have h1 := hst.1
    rw [flat_set_n t x hx] at h1
    rw [bump_snoc t op x hx]
    unfold OwnC
    rw [List.length_set]
    exact h1
  · exact own_other hI hst.2 (fun k hk => by
      intro e
      have : g = k := by simpa using hk
      subst this
      exact own_types4 hI hO (by decide) g e rfl)

theorem spWord_bound (s : List UInt8) : -100000 ≤ (spWord s).1.n ∧ (spWord s).1.n ≤ 100000 ∧ (spWord s).1.s.size ≤ s.length := by
  cases s with
  | nil => simp [spWord]
  | cons b r =>
    have h0 : (ByteArray.empty).size ≤ (b :: r).length := by simp
    have ha : ∀ l : List UInt8, ∀ c ∈ l.takeWhile dig, dig c = true := fun l => by
      have := List.all_takeWhile (p := dig) (l := l)
      rwa [List.all_eq_true] at this
    rw [spWord_cons]
    split
    · have := spNum_bound (ha r); exact ⟨by simp only; omega, by simp only; omega, h0⟩
    · split
      · have := spNum_bound (ha r); exact ⟨by simp only; omega, by simp only; omega, h0⟩
      · split
        · have := spNum_bound (ha (b :: r)); exact ⟨by simp only; omega, by simp only; omega, h0⟩
        · refine ⟨by simp only; omega, by simp only; omega, ?_⟩
          have h3 : ((b :: r).takeWhile sml).length ≤ (b :: r).length := (tw_take sml (b :: r)).2.2
          have h4 : (⟨((b :: r).takeWhile sml).toArray⟩ : ByteArray).size = ((b :: r).takeWhile sml).length := by rw [← bl_size, bl_mk]
          show (⟨((b :: r).takeWhile sml).toArray⟩ : ByteArray).size ≤ _
          omega

theorem run_stop {f : Nat} {l : List UInt8} {j j2 : Nat} {c : C} {t : List C} {op : List Nat} (hj : j < l.length) (hw : spWord (l.drop j) = (c, l.drop j2)) (hjj : j ≤ j2) (h : j2 ≤ j) : spRun (f + 1) (l.drop j) t op = none := by
  have e : j2 = j := by omega
  subst e
  rw [spRun, if_neg (by simp; omega), hw]
  simp
theorem run_open {f : Nat} {l : List UInt8} {j j2 : Nat} {c : C} {t : List C} {op : List Nat} (hj : j < l.length) (hw : spWord (l.drop j) = (c, l.drop j2)) (h : j < j2) (hj2 : j2 ≤ l.length) (hk : c.k = 3) (hh : (l.drop j2).head? = some 40) :
    spRun (f + 1) (l.drop j) t op = spRun f (l.drop (j2 + 1)) (bump t op ++ [c]) (op ++ [t.length]) := by
  rw [spRun, if_neg (by simp; omega), hw]
  dsimp only
  rw [if_neg (by simp; omega), if_pos ⟨hk, hh⟩, List.tail_drop]
theorem run_close {f : Nat} {l : List UInt8} {j j2 : Nat} {c : C} {t : List C} {op : List Nat} (hj : j < l.length) (hw : spWord (l.drop j) = (c, l.drop j2)) (h : j < j2) (hj2 : j2 ≤ l.length) (hk : ¬ (c.k = 3 ∧ (l.drop j2).head? = some 40)) :
    spRun (f + 1) (l.drop j) t op = spRun f (spComma (spClose (l.drop j2) op).1) (bump t op ++ [c]) (spClose (l.drop j2) op).2 := by
  rw [spRun, if_neg (by simp; omega), hw]
  dsimp only
  rw [if_neg (by simp; omega), if_neg hk]
theorem close_on {l : List UInt8} {j : Nat} {op : List Nat} {x : Nat} (h : (l.drop j).head? = some 41) : spClose (l.drop j) (op ++ [x]) = spClose (l.drop (j + 1)) op := by
  obtain ⟨r, hr⟩ : ∃ r, l.drop j = 41 :: r := by
    cases hl : l.drop j with
    | nil => rw [hl] at h; cases h
    | cons b r => rw [hl] at h; simp at h; subst h; exact ⟨r, rfl⟩
  rw [hr, spClose, if_pos ⟨rfl, by simp⟩, List.dropLast_concat, show l.drop (j + 1) = r by rw [← List.tail_drop, hr]; rfl]
theorem close_end {l : List UInt8} {j : Nat} {op : List Nat} (h : ¬ ((l.drop j).head? = some 41 ∧ op ≠ [])) : spClose (l.drop j) op = (l.drop j, op) := by
  cases hl : l.drop j with
  | nil => rw [spClose]
  | cons b r =>
    rw [spClose, if_neg (fun h' => h ⟨by rw [hl, h'.1]; rfl, h'.2⟩)]
theorem comma_at (l : List UInt8) (j : Nat) : spComma (l.drop j) = l.drop (if (l.drop j).head? = some 44 then j + 1 else j) := by
  unfold spComma
  split
  · rw [List.tail_drop]
  · rfl
theorem head_at {l : List UInt8} {j : Nat} (h : j < l.length) : (l.drop j).head? = some l[j] := by
  rw [List.drop_eq_getElem_cons h]; rfl
theorem head_no {l : List UInt8} {j : Nat} (h : ¬ j < l.length) : (l.drop j).head? = none := by
  rw [List.drop_eq_nil_of_le (by omega)]; rfl
theorem run_end {f : Nat} {l : List UInt8} {j : Nat} {t : List C} {op : List Nat} (h : ¬ (j < l.length ∧ 0 < f)) : spRun f (l.drop j) t op = some t := by
  cases f with
  | zero => simp [spRun]
  | succ f =>
    have hj : ¬ j < l.length := fun hj => h ⟨hj, by omega⟩
    rw [spRun, if_pos (List.drop_eq_nil_of_le (by omega))]

theorem rdX_run_none {l : List UInt8} (h : spRun 40 l [] [] = none) : rdX l = none := by
  cases hx : rdX l with
  | none => rfl
  | some u =>
    obtain ⟨hu, he⟩ := rdX_back hx
    rw [← he, spRun_text hu] at h
    cases h
theorem textT_bad {t : List C} (h : ¬ trm t = true) : textT t = ByteArray.empty := by
  unfold textT
  cases ht : trm t with
  | true => exact absurd ht h
  | false => rfl
theorem rdX_run_yes {l : List UInt8} {t : List C} (ht : textT t = mkS l) (hl : l ≠ []) : rdX l = some t := by
  have hb : bl (textT t) = l := by rw [ht]; exact bl_mk l
  by_cases h : trm t = true
  · rw [← hb]; exact rdX_text h
  · rw [textT_bad h] at hb
    exact absurd hb.symm hl
theorem rdX_run_no {l : List UInt8} {t : List C} (h : spRun 40 l [] [] = some t) (hn : ¬ (textT t = mkS l ∧ l ≠ [])) : rdX l = none := by
  cases hx : rdX l with
  | none => rfl
  | some u =>
    obtain ⟨hu, he⟩ := rdX_back hx
    rw [← he, spRun_text hu] at h
    injection h with h
    subst h
    refine absurd ⟨?_, ?_⟩ hn
    · have : textT u = mkS (bl (textT u)) := bl_inj (by rw [show bl (mkS (bl (textT u))) = bl (textT u) from bl_mk _])
      rw [he] at this
      exact this
    · intro e
      rw [e] at he
      exact textT_ne hu (bl_inj he)
end Go.Proofs.YtjjpmlcaapedhaaDoor
