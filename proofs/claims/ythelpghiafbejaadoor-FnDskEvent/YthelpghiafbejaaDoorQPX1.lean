/- The plain mathematics of a term's text: as a tree has it, and as places are gone through with what is open. -/
import Derived.Test.YthelpghiafbejaaDoorQPlain4
namespace Go.Proofs.YthelpghiafbejaaDoor
set_option linter.unusedVariables false
set_option linter.unusedSimpArgs false

def lpB : ByteArray := ByteArray.mk #[40]
def rpB : ByteArray := ByteArray.mk #[41]
def cmB : ByteArray := ByteArray.mk #[44]

/-- Texts with a comma between two. -/
def joinB : List ByteArray → ByteArray
  | [] => ByteArray.empty
  | [u] => u
  | u :: v :: r => u ++ cmB ++ joinB (v :: r)

/-- A tree's text, by the words of its places. -/
inductive Txt (wd : C → ByteArray) : List C → ByteArray → Prop
  | leaf {c : C} : ari c = 0 → Txt wd [c] (wd c)
  | node {c : C} {ks : List (List C)} {us : List ByteArray} : ks ≠ [] → (ks.length : Int) = ari c → us.length = ks.length → (∀ i (h1 : i < ks.length) (h2 : i < us.length), Txt wd ks[i] us[i]) → Txt wd (c :: ks.flatten) (wd c ++ lpB ++ joinB us ++ rpB)

/-- What is closed behind a place that is whole. -/
def closeB : ByteArray → List Int → ByteArray × List Int
  | s, [] => (s, [])
  | s, n :: o => if n = 1 then closeB (s ++ rpB) o else (s ++ cmB, (n - 1) :: o)

/-- Places gone through: the text so far, and how many arguments are still to come of each name that is open, the last one first. -/
def mach (wd : C → ByteArray) : List C → ByteArray → List Int → ByteArray × List Int
  | [], s, o => (s, o)
  | c :: t, s, o => if c.k = 3 ∧ 0 < c.n then mach wd t (s ++ wd c ++ lpB) (c.n :: o) else mach wd t (closeB (s ++ wd c) o).1 (closeB (s ++ wd c) o).2

theorem ari_pos {c : C} (h : 0 < ari c) : c.k = 3 ∧ c.n = ari c := by
  unfold ari at h ⊢
  split at h
  · rename_i h3; exact ⟨h3, by rw [if_pos h3]⟩
  · omega
theorem ari_zero {c : C} (h : ari c = 0) : ¬ (c.k = 3 ∧ 0 < c.n) := fun ⟨h1, h2⟩ => by
  unfold ari at h
  rw [if_pos h1] at h
  omega

theorem mach_kids {wd : C → ByteArray} : ∀ (ks : List (List C)) (us : List ByteArray), ks ≠ [] → us.length = ks.length →
    (∀ i (h1 : i < ks.length) (h2 : i < us.length), ∀ rest s o, mach wd (ks[i] ++ rest) s o = mach wd rest (closeB (s ++ us[i]) o).1 (closeB (s ++ us[i]) o).2) →
    ∀ rest s o, mach wd (ks.flatten ++ rest) s ((ks.length : Int) :: o) = mach wd rest (closeB (s ++ joinB us ++ rpB) o).1 (closeB (s ++ joinB us ++ rpB) o).2
  | [k], [u], _, _, h, rest, s, o => by
      have := h 0 (by simp) (by simp) rest s (1 :: o)
      simp only [List.getElem_cons_zero] at this
      simp only [List.flatten_cons, List.flatten_nil, List.append_nil, List.length_cons, List.length_nil]
      rw [show (((0 + 1 : Nat)) : Int) = 1 by rfl, this]
      simp [closeB, joinB]
  | k :: k' :: ks, u :: u' :: us, _, hl, h, rest, s, o => by
      have h0 := h 0 (by simp) (by simp) ((k' :: ks).flatten ++ rest) s (((k :: k' :: ks).length : Int) :: o)
      simp only [List.getElem_cons_zero] at h0
      have ih := mach_kids (k' :: ks) (u' :: us) (by simp) (by simpa using hl) (fun i h1 h2 => h (i + 1) (Nat.succ_lt_succ h1) (Nat.succ_lt_succ h2)) rest (s ++ u ++ cmB) o
      rw [List.flatten_cons, List.append_assoc, h0]
      have hne : ¬ (((k :: k' :: ks).length : Int) = 1) := by simp only [List.length_cons]; omega
      simp only [closeB, if_neg hne]
      rw [show ((k :: k' :: ks).length : Int) - 1 = ((k' :: ks).length : Int) by simp only [List.length_cons]; omega, ih]
      simp only [joinB, ByteArray.append_assoc]
  | [], _, h, _, _, _, _, _ => absurd rfl h
  | [_], [], _, h, _, _, _, _ => by simp at h
  | [_], _ :: _ :: _, _, h, _, _, _, _ => by simp at h
  | _ :: _ :: _, [], _, h, _, _, _, _ => by simp at h
  | _ :: _ :: _, [_], _, h, _, _, _, _ => by simp at h

theorem mach_txt {wd : C → ByteArray} {t : List C} {u : ByteArray} (h : Txt wd t u) : ∀ rest s o, mach wd (t ++ rest) s o = mach wd rest (closeB (s ++ u) o).1 (closeB (s ++ u) o).2 := by
  induction h with
  | leaf h0 =>
    intro rest s o
    rw [List.singleton_append, mach, if_neg (ari_zero h0)]
  | @node c ks us hne hl hu hk ih =>
    intro rest s o
    have hp : 0 < ks.length := List.length_pos_iff.2 hne
    obtain ⟨h3, hn⟩ := ari_pos (c := c) (by omega)
    rw [List.cons_append, mach, if_pos ⟨h3, by omega⟩, hn, ← hl, mach_kids ks us hne hu ih]
    simp only [ByteArray.append_assoc]

/-- A term's text. -/
def textOf (wd : C → ByteArray) (t : List C) : ByteArray := (mach wd t ByteArray.empty []).1
theorem textOf_of {wd : C → ByteArray} {t : List C} {u : ByteArray} (h : Txt wd t u) : textOf wd t = u := by
  have := mach_txt h [] ByteArray.empty []
  rw [List.append_nil] at this
  unfold textOf
  rw [this]
  simp [mach, closeB]

theorem txt_all (wd : C → ByteArray) : ∀ (f : Nat) (t : List C), Tm f t → ∃ u, Txt wd t u
  | f + 1, t, ⟨c, ks, e, hl, hk⟩ => by
      subst e
      by_cases h0 : ks = []
      · subst h0
        exact ⟨wd c, by simpa using Txt.leaf (by simpa using hl.symm)⟩
      · have all : ∀ (l : List (List C)), (∀ k ∈ l, Tm f k) → ∃ us : List ByteArray, us.length = l.length ∧ ∀ i (h1 : i < l.length) (h2 : i < us.length), Txt wd l[i] us[i] := by
          intro l
          induction l with
          | nil => exact fun _ => ⟨[], rfl, fun i h => by simp at h⟩
          | cons x l ih =>
            intro hx
            obtain ⟨us, h1, h2⟩ := ih (fun k hk => hx k (by simp [hk]))
            obtain ⟨u, hu⟩ := txt_all wd f x (hx x (by simp))
            refine ⟨u :: us, by simp [h1], fun i a b => ?_⟩
            cases i with
            | zero => exact hu
            | succ i => exact h2 i (by simpa using a) (by simpa using b)
        obtain ⟨us, h1, h2⟩ := all ks hk
        exact ⟨_, .node h0 hl h1 h2⟩
end Go.Proofs.YthelpghiafbejaaDoor
