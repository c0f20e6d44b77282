import Derived.Test.YtjjpmlcaapedhaaDoorQBT1Plain4
import Derived.Test.YtjjpmlcaapedhaaDoorQMem2Mem3W9W11W12
import Derived.Test.YtjjpmlcaapedhaaDoorQPlainMemOpenOpen2
/- The plain mathematics of a term's text: as a tree has it, and as places are gone through with what is open. -/
namespace Go.Proofs.YtjjpmlcaapedhaaDoor
set_option linter.unusedVariables false
set_option linter.unusedSimpArgs false

def lpB : ByteArray := ByteArray.mk #[40]
def rpB : ByteArray := ByteArray.mk #[41]
def cmB : ByteArray := ByteArray.mk #[44]

/-- Texts with a comma between two. -/
def joinB : List ByteArray → ByteArray
  | [] => ByteArray.empty
  | [u] => u
  | u :: v :: r => u ++ cmB ++ joinB (v :: r)

/-- A tree's text, by the words of its places. -/
inductive Txt (wd : C → ByteArray) : List C → ByteArray → Prop
  | leaf {c : C} : ari c = 0 → Txt wd [c] (wd c)
  | node {c : C} {ks : List (List C)} {us : List ByteArray} : ks ≠ [] → (ks.length : Int) = ari c → us.length = ks.length → (∀ i (h1 : i < ks.length) (h2 : i < us.length), Txt wd ks[i] us[i]) → Txt wd (c :: ks.flatten) (wd c ++ lpB ++ joinB us ++ rpB)

/-- What is closed behind a place that is whole. -/
def closeB : ByteArray → List Int → ByteArray × List Int
  | s, [] => (s, [])
  | s, n :: o => if n = 1 then closeB (s ++ rpB) o else (s ++ cmB, (n - 1) :: o)

/-- Places gone through: the text so far, and how many arguments are still to come of each name that is open, the last one first. -/
def mach (wd : C → ByteArray) : List C → ByteArray → List Int → ByteArray × List Int
  | [], s, o => (s, o)
  | c :: t, s, o => if c.k = 3 ∧ 0 < c.n then mach wd t (s ++ wd c ++ lpB) (c.n :: o) else mach wd t (closeB (s ++ wd c) o).1 (closeB (s ++ wd c) o).2

theorem ari_pos {c : C} (h : 0 < ari c) : c.k = 3 ∧ c.n = ari c := by
  unfold ari at h ⊢
  split at h
  · rename_i h3; exact ⟨h3, by rw [if_pos h3]⟩
  · omega
theorem ari_zero {c : C} (h : ari c = 0) : ¬ (c.k = 3 ∧ 0 < c.n) := fun ⟨h1, h2⟩ => by
  unfold ari at h
  rw [if_pos h1] at h
  omega

theorem mach_kids {wd : C → ByteArray} : ∀ (ks : List (List C)) (us : List ByteArray), ks ≠ [] → us.length = ks.length →
    (∀ i (h1 : i < ks.length) (h2 : i < us.length), ∀ rest s o, mach wd (ks[i] ++ rest) s o = mach wd rest (closeB (s ++ us[i]) o).1 (closeB (s ++ us[i]) o).2) →
    ∀ rest s o, mach wd (ks.flatten ++ rest) s ((ks.length : Int) :: o) = mach wd rest (closeB (s ++ joinB us ++ rpB) o).1 (closeB (s ++ joinB us ++ rpB) o).2
  | [k], [u], _, _, h, rest, s, o => by
      have := h 0 (by simp) (by simp) rest s (1 :: o)
      simp only [List.getElem_cons_zero] at this
      simp only [List.flatten_cons, List.flatten_nil, List.append_nil, List.length_cons, List.length_nil]
      rw [show (((0 + 1 : Nat)) : Int) = 1 by rfl, this]
      simp [closeB, joinB]
  | k :: k' :: ks, u :: u' :: us, _, hl, h, rest, s, o => by
      have h0 := h 0 (by simp) (by simp) ((k' :: ks).flatten ++ rest) s (((k :: k' :: ks).length : Int) :: o)
      simp only [List.getElem_cons_zero] at h0
      have ih := mach_kids (k' :: ks) (u' :: us) (by simp) (by simpa using hl) (fun i h1 h2 => h (i + 1) (Nat.succ_lt_succ h1) (Nat.succ_lt_succ h2)) rest (s ++ u ++ cmB) o
      rw [List.flatten_cons, List.append_assoc, h0]
      have hne : ¬ (((k :: k' :: ks).length : Int) = 1) := by simp only [List.length_cons]; omega
      simp only [closeB, if_neg hne]
      rw [show ((k :: k' :: ks).length : Int) - 1 = ((k' :: ks).length : Int) by simp only [List.length_cons]; omega, ih]
      simp only [joinB, ByteArray.append_assoc]
  | [], _, h, _, _, _, _, _ => absurd rfl h
  | [_], [], _, h, _, _, _, _ => by simp at h
  | [_], _ :: _ :: _, _, h, _, _, _, _ => by simp at h
  | _ :: _ :: _, [], _, h, _, _, _, _ => by simp at h
  | _ :: _ :: _, [_], _, h, _, _, _, _ => by simp at h

theorem mach_txt {wd : C → ByteArray} {t : List C} {u : ByteArray} (h : Txt wd t u) : ∀ rest s o, mach wd (t ++ rest) s o = mach wd rest (closeB (s ++ u) o).1 (closeB (s ++ u) o).2 := by
  induction h with
  | leaf h0 =>
    intro rest s o
    rw [List.singleton_append, mach, if_neg (ari_zero h0)]
  | @node c ks us hne hl hu hk ih =>
    intro rest s o
    have hp : 0 < ks.length := List.length_pos_iff.2 hne
    obtain ⟨h3, hn⟩ := ari_pos (c := c) (by omega)
    rw [List.cons_append, mach, if_pos ⟨h3, by omega⟩, hn, ← hl, mach_kids ks us hne hu ih]
    simp only [ByteArray.append_assoc]

/-- A term's text. -/
def textOf (wd : C → ByteArray) (t : List C) : ByteArray := (mach wd t ByteArray.empty []).1
theorem textOf_of {wd : C → ByteArray} {t : List C} {u : ByteArray} (h : Txt wd t u) : textOf wd t = u := by
  have := mach_txt h [] ByteArray.empty []
  rw [List.append_nil] at this
  unfold textOf
  rw [this]
  simp [mach, closeB]

theorem txt_all (wd : C → ByteArray) : ∀ (f : Nat) (t : List C), Tm f t → ∃ u, Txt wd t u
  | f + 1, t, ⟨c, ks, e, hl, hk⟩ => by
      subst e
      by_cases h0 : ks = []
      · subst h0
        exact ⟨wd c, by simpa using Txt.leaf (by simpa using hl.symm)⟩
      · have all : ∀ (l : List (List C)), (∀ k ∈ l, Tm f k) → ∃ us : List ByteArray, us.length = l.length ∧ ∀ i (h1 : i < l.length) (h2 : i < us.length), Txt wd l[i] us[i] := by
          intro l
          induction l with
          | nil => exact fun _ => ⟨[], rfl, fun i h => by simp at h⟩
          | cons x l ih =>
            intro hx
            obtain ⟨us, h1, h2⟩ := ih (fun k hk => hx k (by simp [hk]))
            obtain ⟨u, hu⟩ := txt_all wd f x (hx x (by simp))
            refine ⟨u :: us, by simp [h1], fun i a b => ?_⟩
            cases i with
            | zero => exact hu
            | succ i => exact h2 i (by simpa using a) (by simpa using b)
        obtain ⟨us, h1, h2⟩ := all ks hk
        exact ⟨_, .node h0 hl h1 h2⟩
end Go.Proofs.YtjjpmlcaapedhaaDoor

/- Bytes in memory: a slice that leads to them, and what owns them. -/
namespace Go.Proofs.YtjjpmlcaapedhaaDoor
open Go.RowKit
set_option linter.unusedVariables false
set_option linter.unusedSimpArgs false

/-- All are bytes. -/
def ByL (z : List Int) : Prop := ∀ x ∈ z, 0 ≤ x ∧ x ≤ 255
def AtY (w : World) (b off : Nat) (z : List Int) : Prop := ∀ i, (h : i < z.length) → w.cell? ⟨b, off + i, none⟩ = some (.int .u8 z[i])
def RowY (w : World) (ao : Option Addr) (z : List Int) : Prop := z = [] ∨ ∃ b off, ao = some ⟨b, off, none⟩ ∧ AtY w b off z

theorem ByL.get {z : List Int} (h : ByL z) (i : Nat) (hi : i < z.length) : 0 ≤ z[i] ∧ z[i] ≤ 255 := h _ (List.getElem_mem hi)
theorem ByL.nil : ByL [] := fun x h => by cases h
theorem ByL.one {x : Int} (h : 0 ≤ x ∧ x ≤ 255) : ByL [x] := fun y hy => by simp at hy; subst hy; exact h
theorem ByL.app {a b : List Int} (ha : ByL a) (hb : ByL b) : ByL (a ++ b) := fun x hx => by
  rcases List.mem_append.1 hx with h | h
  · exact ha x h
  · exact hb x h
theorem ByL.take {a : List Int} (ha : ByL a) (k : Nat) : ByL (a.take k) := fun x hx => ha x (List.mem_of_mem_take hx)
theorem ByL.drop {a : List Int} (ha : ByL a) (k : Nat) : ByL (a.drop k) := fun x hx => ha x (List.mem_of_mem_drop hx)

theorem AtY.below {w w' : World} {b off : Nat} {z : List Int} (h : AtY w b off z) (hb : Below w.heap.size w w') : AtY w' b off z := fun i hi =>
  (hb.cell (p := ⟨b, off + i, none⟩) (World.block_lt_of_cell? w ⟨b, _, none⟩ (h i hi))).trans (h i hi)
theorem RowY.below {w w' : World} {ao : Option Addr} {z : List Int} (h : RowY w ao z) (hb : Below w.heap.size w w') : RowY w' ao z := by
  rcases h with h | ⟨b, off, e, h⟩
  · exact .inl h
  · exact .inr ⟨b, off, e, h.below hb⟩
theorem AtY.lt {w : World} {b off : Nat} {z : List Int} (h : AtY w b off z) (hl : 0 < z.length) : b < w.heap.size :=
  World.block_lt_of_cell? w ⟨b, _, none⟩ (h 0 hl)
theorem AtY.take {w : World} {b off : Nat} {z : List Int} (h : AtY w b off z) (k : Nat) : AtY w b off (z.take k) := fun i hi => by
  have hi' : i < z.length := by simp at hi; omega
  rw [List.getElem_take]
  exact h i hi'
theorem AtY.drop {w : World} {b off : Nat} {z : List Int} (h : AtY w b off z) (k : Nat) : AtY w b (off + k) (z.drop k) := fun i hi => by
  have hi' : k + i < z.length := by simp at hi; omega
  rw [List.getElem_drop, Nat.add_assoc]
  exact h (k + i) hi'
theorem RowY.of_at {w : World} {b off : Nat} {z : List Int} (h : AtY w b off z) : RowY w (some ⟨b, off, none⟩) z := .inr ⟨b, off, rfl, h⟩

/-- The bytes as they lie. -/
def bys (z : List Int) : List Value := z.map (Value.int .u8)
theorem bys_length (z : List Int) : (bys z).length = z.length := by simp [bys]
theorem bys_get (z : List Int) (i : Nat) (h : i < z.length) : (bys z)[i]? = some (.int .u8 z[i]) := by simp [bys, h]
theorem bys_app (a b : List Int) : bys (a ++ b) = bys a ++ bys b := by simp [bys]
theorem bys_one (z : List Int) : ∀ u ∈ bys z, u.oneCell' = true := fun u hu => by
  obtain ⟨x, _, rfl⟩ := List.mem_map.1 hu
  rfl

/-- A slice value v owns the bytes z. -/
def OwnY (w : World) (base : Nat) (v : Value) (z : List Int) : Prop := w.ownsRow base 5 1 v z.length (bys z)

theorem ownsY_at {w : World} {base e g cap n : Nat} {z : List Int} (h : w.ownsRow base e 1 (.slice (some ⟨g, 0, none⟩) n cap) n (bys z)) (hn : n = z.length) : AtY w g 0 z := fun i hi => by
  have e0 := h.cellAt i (by omega)
  rw [Nat.zero_add]
  exact e0.trans (bys_get z i hi)

theorem OwnY.shape {w : World} {base : Nat} {v : Value} {z : List Int} (h : OwnY w base v z) : ∃ ao cap, v = .slice ao z.length cap ∧ RowY w ao z := by
  have h' := h
  rcases h.2 with ⟨e, hn⟩ | ⟨g, cap, cur, e, _⟩
  · refine ⟨none, 0, ?_, .inl (List.length_eq_zero_iff.1 hn)⟩
    rw [e, hn]
  · subst e
    exact ⟨_, _, rfl, .inr ⟨g, 0, rfl, ownsY_at h' rfl⟩⟩
theorem OwnY.row {w : World} {base : Nat} {ao : Option Addr} {n cap : Nat} {z : List Int} (h : OwnY w base (.slice ao n cap) z) : RowY w ao z := by
  obtain ⟨ao', cap', e, hR⟩ := h.shape
  simp only [Value.slice.injEq] at e
  obtain ⟨rfl, _, _⟩ := e
  exact hR
theorem OwnY.below {w w1 : World} {base : Nat} {v : Value} {z : List Int} (h : OwnY w base v z) (hb : Below w.heap.size w w1) : OwnY w1 base v z := own_below h hb
theorem OwnY.some {w : World} {base : Nat} {v : Value} {z : List Int} (h : OwnY w base v z) (hl : 0 < z.length) : ∃ g cap, v = .slice (some ⟨g, 0, none⟩) z.length cap ∧ base ≤ g ∧ g < w.heap.size ∧ AtY w g 0 z ∧ z.length ≤ cap ∧ cap ≤ maxLen := by
  have h' := h
  rcases h.2 with ⟨e, hn⟩ | ⟨g, cap, cur, e, hb, hg, hc, hm, _⟩
  · omega
  · subst e
    exact ⟨g, cap, rfl, hb, (Array.getElem?_eq_some_iff.1 hg).1, ownsY_at h' rfl, hc, hm⟩

/-- Bytes that came in are a list of bytes. -/
theorem Bin.list {w : World} {a : Option Addr} {len cap : Nat} {z : Nat → Int} (h : Bin w a len cap z) : ∃ y : List Int, y.length = len ∧ ByL y ∧ RowY w a y ∧ len ≤ cap ∧ cap ≤ maxLen := by
  obtain ⟨h1, h2, h3, h4⟩ := h
  refine ⟨(List.range len).map z, by simp, ?_, ?_, h1, h2⟩
  · intro x hx
    obtain ⟨i, _, rfl⟩ := List.mem_map.1 hx
    exact h3 i
  · rcases h4 with rfl | ⟨b, off, e, hc⟩
    · exact .inl rfl
    · refine .inr ⟨b, off, e, fun i hi => ?_⟩
      have hi' : i < len := by simpa using hi
      simpa using hc i hi'
end Go.Proofs.YtjjpmlcaapedhaaDoor
