import Derived.Test.YtjjpmlcaapedhaaDoorQPlainMemOpen
/- The plain mathematics of terms as trees: a place, and as many terms behind it as it has arguments. -/
namespace Go.Proofs.YtjjpmlcaapedhaaDoor
set_option linter.unusedSimpArgs false
set_option linter.unusedVariables false

/-- Places are one tree, no higher than f. -/
def Tm : Nat → List C → Prop
  | 0, _ => False
  | f + 1, t => ∃ (c : C) (ks : List (List C)), t = c :: ks.flatten ∧ (ks.length : Int) = ari c ∧ ∀ k ∈ ks, Tm f k

theorem Tm.mono : ∀ {f g : Nat} {t : List C}, Tm f t → f ≤ g → Tm g t
  | f + 1, g + 1, t, ⟨c, ks, e, hl, hk⟩, h => ⟨c, ks, e, hl, fun k hm => (hk k hm).mono (by omega)⟩

theorem Tm.pos : ∀ {f : Nat} {t : List C}, Tm f t → 1 ≤ t.length
  | f + 1, t, ⟨c, ks, e, hl, hk⟩ => by rw [e]; simp

theorem ends_trees : ∀ (t : List C) (m : Nat) (j : Nat), (∀ c ∈ t, 0 ≤ ari c) → ends m t = some j → ∃ ks : List (List C), ks.length = m ∧ ks.flatten = t.take j ∧ ∀ k ∈ ks, Tm t.length k
  | [], m, j, _, h => by
      by_cases hm : (m : Int) ≤ 0
      · exact ⟨[], by simp; omega, by simp, by simp⟩
      · simp [ends, hm] at h; omega
  | c :: r, m, j, ha, h => by
      by_cases hm : (m : Int) ≤ 0
      · have hm0 : m = 0 := by omega
        subst hm0
        simp [ends] at h
        exact ⟨[], by simp, by simp [← h], by simp⟩
      · simp only [ends, if_neg hm, Option.map_eq_some_iff] at h
        obtain ⟨j', hj, rfl⟩ := h
        have hc := ha c (by simp)
        obtain ⟨a, hae⟩ : ∃ a : Nat, (a : Int) = ari c := ⟨(ari c).toNat, by omega⟩
        rw [← hae, show (m : Int) - 1 + a = ((m - 1 + a : Nat) : Int) by omega] at hj
        obtain ⟨ks, hl, hf, hk⟩ := ends_trees r (m - 1 + a) j' (fun c' h' => ha c' (by simp [h'])) hj
        refine ⟨(c :: (ks.take a).flatten) :: ks.drop a, by simp; omega, ?_, ?_⟩
        · rw [List.flatten_cons, List.take_succ_cons, ← hf, List.cons_append, ← List.flatten_append, List.take_append_drop]
        · intro k hkm
          rcases List.mem_cons.1 hkm with rfl | hkm
          · exact ⟨c, ks.take a, rfl, by rw [List.length_take, ← hae]; omega, fun k' h' => hk k' (List.mem_of_mem_take h')⟩
          · exact (hk k (List.mem_of_mem_drop hkm)).mono (by simp)

theorem trm_tree {t : List C} (h : trm t = true) : Tm t.length t := by
  obtain ⟨h1, h2, h3, h4⟩ := (trm_iff t).1 h
  obtain ⟨ks, hl, hf, hk⟩ := ends_trees t 1 t.length (fun c hc => (ari_ok (h3 c hc)).1) h4
  match ks, hl with
  | [k], _ =>
    simp at hf
    subst hf
    exact hk k (by simp)

theorem ends_of_tree : ∀ (f : Nat) (t : List C), Tm f t → ∀ (m : Nat) (r : List C), ends (m + 1) (t ++ r) = (ends m r).map (· + t.length)
  | f + 1, t, ⟨c, ks, e, hl, hk⟩, m, r => by
      have all : ∀ (ks : List (List C)), (∀ k ∈ ks, Tm f k) → ∀ (m : Nat), ends ((m + ks.length : Nat) : Int) (ks.flatten ++ r) = (ends m r).map (· + ks.flatten.length) := by
        intro ks
        induction ks with
        | nil => intro _ m; simp
        | cons k ks ih =>
          intro hk m
          have e1 := ends_of_tree f k (hk k (by simp)) (m + ks.length) (ks.flatten ++ r)
          have e2 := ih (fun k' h' => hk k' (by simp [h'])) m
          rw [List.flatten_cons, List.append_assoc, List.length_cons, show ((m + (ks.length + 1) : Nat) : Int) = ((m + ks.length : Nat) : Int) + 1 by omega, e1, e2, Option.map_map, List.length_append]
          congr 1
          funext x
          simp; omega
      subst e
      rw [List.cons_append]
      simp only [ends]
      rw [if_neg (by omega), show (m : Int) + 1 - 1 + ari c = ((m + ks.length : Nat) : Int) by omega, all ks hk m, Option.map_map]
      congr 1

theorem tree_trm {f : Nat} {t : List C} (h : Tm f t) (hl : t.length ≤ 40) (ho : ∀ c ∈ t, okC c = true) : trm t = true := by
  refine (trm_iff t).2 ⟨h.pos, hl, ho, ?_⟩
  have := ends_of_tree f t h 0 []
  simp [ends] at this
  exact this

/-- Terms one behind another are told apart by where they end. -/
theorem trees_one : ∀ {f : Nat} (ks ks' : List (List C)), (∀ k ∈ ks, Tm f k) → (∀ k ∈ ks', Tm f k) → ks.flatten = ks'.flatten → ks = ks'
  | f, [], [], _, _, _ => rfl
  | f, [], k :: ks', _, h, e => by
      have h1 := (h k (by simp)).pos
      have h2 := congrArg List.length e
      rw [List.flatten_cons, List.length_append] at h2
      simp only [List.flatten_nil, List.length_nil] at h2
      omega
  | f, k :: ks, [], h, _, e => by
      have h1 := (h k (by simp)).pos
      have h2 := congrArg List.length e
      rw [List.flatten_cons, List.length_append] at h2
      simp only [List.flatten_nil, List.length_nil] at h2
      omega
  | f, k :: ks, k' :: ks', h, h', e => by
      have e1 := ends_of_tree f k (h k (by simp)) 0 ks.flatten
      have e2 := ends_of_tree f k' (h' k' (by simp)) 0 ks'.flatten
      rw [List.flatten_cons, List.flatten_cons] at e
      rw [e, e2] at e1
      have z : ∀ r, ends (0 : Nat) r = some 0 := fun r => by cases r <;> simp [ends]
      rw [z, z] at e1
      simp at e1
      obtain ⟨rfl, e3⟩ := List.append_inj e e1.symm
      rw [trees_one ks ks' (fun q hq => h q (by simp [hq])) (fun q hq => h' q (by simp [hq])) e3]
end Go.Proofs.YtjjpmlcaapedhaaDoor

/- The plain mathematics of a term's text: as a tree has it, and as places are gone through with what is open. -/
namespace Go.Proofs.YtjjpmlcaapedhaaDoor
set_option linter.unusedVariables false
set_option linter.unusedSimpArgs false

def lpB : ByteArray := ByteArray.mk #[40]
def rpB : ByteArray := ByteArray.mk #[41]
def cmB : ByteArray := ByteArray.mk #[44]

/-- Texts with a comma between two. -/
def joinB : List ByteArray → ByteArray
  | [] => ByteArray.empty
  | [u] => u
  | u :: v :: r => u ++ cmB ++ joinB (v :: r)

/-- A tree's text, by the words of its places. -/
inductive Txt (wd : C → ByteArray) : List C → ByteArray → Prop
  | leaf {c : C} : ari c = 0 → Txt wd [c] (wd c)
  | node {c : C} {ks : List (List C)} {us : List ByteArray} : ks ≠ [] → (ks.length : Int) = ari c → us.length = ks.length → (∀ i (h1 : i < ks.length) (h2 : i < us.length), Txt wd ks[i] us[i]) → Txt wd (c :: ks.flatten) (wd c ++ lpB ++ joinB us ++ rpB)

/-- What is closed behind a place that is whole. -/
def closeB : ByteArray → List Int → ByteArray × List Int
  | s, [] => (s, [])
  | s, n :: o => if n = 1 then closeB (s ++ rpB) o else (s ++ cmB, (n - 1) :: o)

/-- Places gone through: the text so far, and how many arguments are still to come of each name that is open, the last one first. -/
def mach (wd : C → ByteArray) : List C → ByteArray → List Int → ByteArray × List Int
  | [], s, o => (s, o)
  | c :: t, s, o => if c.k = 3 ∧ 0 < c.n then mach wd t (s ++ wd c ++ lpB) (c.n :: o) else mach wd t (closeB (s ++ wd c) o).1 (closeB (s ++ wd c) o).2

theorem ari_pos {c : C} (h : 0 < ari c) : c.k = 3 ∧ c.n = ari c := by
  unfold ari at h ⊢
  split at h
  · rename_i h3; exact ⟨h3, by rw [if_pos h3]⟩
  · omega
theorem ari_zero {c : C} (h : ari c = 0) : ¬ (c.k = 3 ∧ 0 < c.n) := fun ⟨h1, h2⟩ => by
  unfold ari at h
  rw [if_pos h1] at h
  omega

theorem mach_kids {wd : C → ByteArray} : ∀ (ks : List (List C)) (us : List ByteArray), ks ≠ [] → us.length = ks.length →
    (∀ i (h1 : i < ks.length) (h2 : i < us.length), ∀ rest s o, mach wd (ks[i] ++ rest) s o = mach wd rest (closeB (s ++ us[i]) o).1 (closeB (s ++ us[i]) o).2) →
    ∀ rest s o, mach wd (ks.flatten ++ rest) s ((ks.length : Int) :: o) = mach wd rest (closeB (s ++ joinB us ++ rpB) o).1 (closeB (s ++ joinB us ++ rpB) o).2
  | [k], [u], _, _, h, rest, s, o => by
      have := h 0 (by simp) (by simp) rest s (1 :: o)
      simp only [List.getElem_cons_zero] at this
      simp only [List.flatten_cons, List.flatten_nil, List.append_nil, List.length_cons, List.length_nil]
      rw [show (((0 + 1 : Nat)) : Int) = 1 by rfl, this]
      simp [closeB, joinB]
  | k :: k' :: ks, u :: u' :: us, _, hl, h, rest, s, o => by
      have h0 := h 0 (by simp) (by simp) ((k' :: ks).flatten ++ rest) s (((k :: k' :: ks).length : Int) :: o)
      simp only [List.getElem_cons_zero] at h0
      have ih := mach_kids (k' :: ks) (u' :: us) (by simp) (by simpa using hl) (fun i h1 h2 => h (i + 1) (Nat.succ_lt_succ h1) (Nat.succ_lt_succ h2)) rest (s ++ u ++ cmB) o
      rw [List.flatten_cons, List.append_assoc, h0]
      have hne : ¬ (((k :: k' :: ks).length : Int) = 1) := by simp only [List.length_cons]; omega
      simp only [closeB, if_neg hne]
      rw [show ((k :: k' :: ks).length : Int) - 1 = ((k' :: ks).length : Int) by simp only [List.length_cons]; omega, ih]
      simp only [joinB, ByteArray.append_assoc]
  | [], _, h, _, _, _, _, _ => absurd rfl h
  | [_], [], _, h, _, _, _, _ => by simp at h
  | [_], _ :: _ :: _, _, h, _, _, _, _ => by simp at h
  | _ :: _ :: _, [], _, h, _, _, _, _ => by simp at h
  | _ :: _ :: _, [_], _, h, _, _, _, _ => by simp at h

theorem mach_txt {wd : C → ByteArray} {t : List C} {u : ByteArray} (h : Txt wd t u) : ∀ rest s o, mach wd (t ++ rest) s o = mach wd rest (closeB (s ++ u) o).1 (closeB (s ++ u) o).2 := by
  induction h with
  | leaf h0 =>
    intro rest s o
    rw [List.singleton_append, mach, if_neg (ari_zero h0)]
  | @node c ks us hne hl hu hk ih =>
    intro rest s o
    have hp : 0 < ks.length := List.length_pos_iff.2 hne
    obtain ⟨h3, hn⟩ := ari_pos (c := c) (by omega)
    rw [List.cons_append, mach, if_pos ⟨h3, by omega⟩, hn, ← hl, mach_kids ks us hne hu ih]
    simp only [ByteArray.append_assoc]

/-- A term's text. -/
def textOf (wd : C → ByteArray) (t : List C) : ByteArray := (mach wd t ByteArray.empty []).1
theorem textOf_of {wd : C → ByteArray} {t : List C} {u : ByteArray} (h : Txt wd t u) : textOf wd t = u := by
  have := mach_txt h [] ByteArray.empty []
  rw [List.append_nil] at this
  unfold textOf
  rw [this]
  simp [mach, closeB]

theorem txt_all (wd : C → ByteArray) : ∀ (f : Nat) (t : List C), Tm f t → ∃ u, Txt wd t u
  | f + 1, t, ⟨c, ks, e, hl, hk⟩ => by
      subst e
      by_cases h0 : ks = []
      · subst h0
        exact ⟨wd c, by simpa using Txt.leaf (by simpa using hl.symm)⟩
      · have all : ∀ (l : List (List C)), (∀ k ∈ l, Tm f k) → ∃ us : List ByteArray, us.length = l.length ∧ ∀ i (h1 : i < l.length) (h2 : i < us.length), Txt wd l[i] us[i] := by
          intro l
          induction l with
          | nil => exact fun _ => ⟨[], rfl, fun i h => by simp at h⟩
          | cons x l ih =>
            intro hx
            obtain ⟨us, h1, h2⟩ := ih (fun k hk => hx k (by simp [hk]))
            obtain ⟨u, hu⟩ := txt_all wd f x (hx x (by simp))
            refine ⟨u :: us, by simp [h1], fun i a b => ?_⟩
            cases i with
            | zero => exact hu
            | succ i => exact h2 i (by simpa using a) (by simpa using b)
        obtain ⟨us, h1, h2⟩ := all ks hk
        exact ⟨_, .node h0 hl h1 h2⟩
end Go.Proofs.YtjjpmlcaapedhaaDoor
