/- The plain mathematics of terms: places, when they are a term, by lists alone. -/
import Derived.WalkKit
namespace Go.Proofs.YthelpghiafbejaaDoor
set_option linter.unusedSimpArgs false

/-- A place of a term: what stands there, the number, the name. -/
structure C where
  k : Int
  n : Int
  s : ByteArray

def small (c : Int) : Bool := decide (97 ≤ c) && decide (c ≤ 122)

theorem small_yes {c : Int} (h1 : 97 ≤ c) (h2 : c ≤ 122) : small c = true := by simp [small, h1, h2]
theorem small_no {c : Int} (h : c < 97 ∨ 122 < c) : small c = false := by simp [small]; omega

/-- A text is small letters alone. -/
def letters (s : ByteArray) : Bool := s.data.toList.all fun c => small c.toNat

/-- How many bytes at the front are small letters. -/
def cnt (l : List UInt8) : Nat := (l.takeWhile fun c => small c.toNat).length

theorem cnt_le (l : List UInt8) : cnt l ≤ l.length := by
  unfold cnt
  induction l with
  | nil => simp
  | cons a r ih => rw [List.takeWhile_cons]; split <;> simp; omega

theorem cnt_stop : ∀ (l : List UInt8) (k : Nat), (∀ j, (h : j < l.length) → j < k → small l[j].toNat = true) → (h : k < l.length) → small l[k].toNat = false → cnt l = k
  | [], k, _, h, _ => absurd h (Nat.not_lt_zero _)
  | a :: r, 0, _, _, hn => by
      have : small a.toNat = false := hn
      simp [cnt, this]
  | a :: r, k + 1, hall, h, hn => by
      have h0 : small a.toNat = true := hall 0 (by simp) (by omega)
      have ih := cnt_stop r k (fun j hj hk => hall (j + 1) (by simp; omega) (by omega)) (by simpa using h) hn
      unfold cnt at ih ⊢
      simp [h0, ih]

theorem cnt_all : ∀ (l : List UInt8), (∀ j, (h : j < l.length) → small l[j].toNat = true) → cnt l = l.length
  | [], _ => rfl
  | a :: r, hall => by
      have h0 : small a.toNat = true := hall 0 (by simp)
      have ih := cnt_all r (fun j hj => hall (j + 1) (by simp; omega))
      unfold cnt at ih ⊢
      simp [h0, ih]

theorem cnt_eq_iff : ∀ (l : List UInt8), (cnt l = l.length ↔ l.all (fun c => small c.toNat) = true)
  | [] => by simp [cnt]
  | a :: r => by
      have ih := cnt_eq_iff r
      unfold cnt at ih ⊢
      by_cases h : small a.toNat = true
      · simp [List.takeWhile_cons, h] at ih ⊢; exact ih
      · simp [List.takeWhile_cons, h]

/-- A text is a name. -/
def nameB (s : ByteArray) : Bool := decide (1 ≤ s.size) && decide (s.size ≤ 8) && letters s

/-- A place may stand in a term. -/
def okC (c : C) : Bool :=
  if c.k = 1 then decide (0 ≤ c.n) && decide (c.n ≤ 99999) && decide (c.s.size = 0)
  else if c.k = 2 then decide (-9999 ≤ c.n) && decide (c.n ≤ 9999) && decide (c.s.size = 0)
  else if c.k = 3 then decide (0 ≤ c.n) && decide (c.n ≤ 3) && nameB c.s
  else false

/-- How many arguments follow. -/
def ari (c : C) : Int := if c.k = 3 then c.n else 0

theorem ari_ok {c : C} (h : okC c = true) : 0 ≤ ari c ∧ ari c ≤ 3 := by
  unfold okC at h; unfold ari
  split
  · rename_i h3
    rw [if_neg (by omega), if_neg (by omega), if_pos h3] at h
    simp at h; omega
  · omega

/-- As the program looks: how many terms are missing, place by place. -/
def goes : Int → List C → Bool
  | m, [] => decide (m = 0)
  | m, c :: r => if m = 0 then false else if okC c = false then false else goes (m + (ari c - 1)) r

/-- Places are a term. -/
def trm (t : List C) : Bool := decide (t.length ≤ 40) && goes 1 t

theorem trm_nil : trm [] = false := by simp [trm, goes]

/-- Where what is open ends: how many places that takes. -/
def ends : Int → List C → Option Nat
  | m, [] => if m ≤ 0 then some 0 else none
  | m, c :: r => if m ≤ 0 then some 0 else (ends (m - 1 + ari c) r).map (· + 1)

theorem goes_ends : ∀ (t : List C) (m : Int), 0 ≤ m → (goes m t = true ↔ (∀ c ∈ t, okC c = true) ∧ ends m t = some t.length)
  | [], m, hm => by
      simp only [goes, ends, List.length_nil]
      by_cases h : m = 0
      · simp [h]
      · have : ¬ m ≤ 0 := by omega
        simp [h, this]
  | c :: r, m, hm => by
      simp only [goes, ends, List.length_cons]
      by_cases h : m = 0
      · subst h; simp
      · have h0 : ¬ m ≤ 0 := by omega
        rw [if_neg h, if_neg h0]
        cases ho : okC c with
        | false => simp [ho]
        | true =>
          have ha := ari_ok ho
          have ih := goes_ends r (m - 1 + ari c) (by omega)
          rw [if_neg (by simp), show m + (ari c - 1) = m - 1 + ari c by omega, ih]
          simp [ho]

theorem trm_iff (t : List C) : trm t = true ↔ 1 ≤ t.length ∧ t.length ≤ 40 ∧ (∀ c ∈ t, okC c = true) ∧ ends 1 t = some t.length := by
  unfold trm
  rw [Bool.and_eq_true, goes_ends t 1 (by omega)]
  cases t with
  | nil => simp [ends]
  | cons c r => simp
end Go.Proofs.YthelpghiafbejaaDoor
