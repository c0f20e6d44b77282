import Derived.WalkKit
import Derived.Test.YtkedckmpjedjoaaRows
import Derived.Deep.Strs
import Derived.ProofKit
import Derived.OpenShut
/- The plain mathematics of terms: places, when they are a term, by lists alone. -/
namespace Go.Proofs.Ytkedckmpjedjoaa
set_option linter.unusedSimpArgs false

/-- A place of a term: what stands there, the number, the name. -/
structure C where
  k : Int
  n : Int
  s : ByteArray

def small (c : Int) : Bool := decide (97 ≤ c) && decide (c ≤ 122)

theorem small_yes {c : Int} (h1 : 97 ≤ c) (h2 : c ≤ 122) : small c = true := by simp [small, h1, h2]
theorem small_no {c : Int} (h : c < 97 ∨ 122 < c) : small c = false := by simp [small]; omega

/-- A text is small letters alone. -/
def letters (s : ByteArray) : Bool := s.data.toList.all fun c => small c.toNat

/-- How many bytes at the front are small letters. -/
def cnt (l : List UInt8) : Nat := (l.takeWhile fun c => small c.toNat).length

theorem cnt_le (l : List UInt8) : cnt l ≤ l.length := by
  unfold cnt
  induction l with
  | nil => simp
  | cons a r ih => rw [List.takeWhile_cons]; split <;> simp; omega

theorem cnt_stop : ∀ (l : List UInt8) (k : Nat), (∀ j, (h : j < l.length) → j < k → small l[j].toNat = true) → (h : k < l.length) → small l[k].toNat = false → cnt l = k
  | [], k, _, h, _ => absurd h (Nat.not_lt_zero _)
  | a :: r, 0, _, _, hn => by
      have : small a.toNat = false := hn
      simp [cnt, this]
  | a :: r, k + 1, hall, h, hn => by
      have h0 : small a.toNat = true := hall 0 (by simp) (by omega)
      have ih := cnt_stop r k (fun j hj hk => hall (j + 1) (by simp; omega) (by omega)) (by simpa using h) hn
      unfold cnt at ih ⊢
      simp [h0, ih]

theorem cnt_all : ∀ (l : List UInt8), (∀ j, (h : j < l.length) → small l[j].toNat = true) → cnt l = l.length
  | [], _ => rfl
  | a :: r, hall => by
      have h0 : small a.toNat = true := hall 0 (by simp)
      have ih := cnt_all r (fun j hj => hall (j + 1) (by simp; omega))
      unfold cnt at ih ⊢
      simp [h0, ih]

theorem cnt_eq_iff : ∀ (l : List UInt8), (cnt l = l.length ↔ l.all (fun c => small c.toNat) = true)
  | [] => by simp [cnt]
  | a :: r => by
      have ih := cnt_eq_iff r
      unfold cnt at ih ⊢
      by_cases h : small a.toNat = true
      · simp [List.takeWhile_cons, h] at ih ⊢; exact ih
      · simp [List.takeWhile_cons, h]

/-- A text is a name. -/
def nameB (s : ByteArray) : Bool := decide (1 ≤ s.size) && decide (s.size ≤ 8) && letters s

/-- A place may stand in a term. -/
def okC (c : C) : Bool :=
  if c.k = 1 then decide (0 ≤ c.n) && decide (c.n ≤ 99999) && decide (c.s.size = 0)
  else if c.k = 2 then decide (-9999 ≤ c.n) && decide (c.n ≤ 9999) && decide (c.s.size = 0)
  else if c.k = 3 then decide (0 ≤ c.n) && decide (c.n ≤ 3) && nameB c.s
  else false

/-- How many arguments follow. -/
def ari (c : C) : Int := if c.k = 3 then c.n else 0

theorem ari_ok {c : C} (h : okC c = true) : 0 ≤ ari c ∧ ari c ≤ 3 := by
  unfold okC at h; unfold ari
  split
  · rename_i h3
    rw [if_neg (by omega), if_neg (by omega), if_pos h3] at h
    simp at h; omega
  · omega

/-- As the program looks: how many terms are missing, place by place. -/
def goes : Int → List C → Bool
  | m, [] => decide (m = 0)
  | m, c :: r => if m = 0 then false else if okC c = false then false else goes (m + (ari c - 1)) r

/-- Places are a term. -/
def trm (t : List C) : Bool := decide (t.length ≤ 40) && goes 1 t

theorem trm_nil : trm [] = false := by simp [trm, goes]

/-- Where what is open ends: how many places that takes. -/
def ends : Int → List C → Option Nat
  | m, [] => if m ≤ 0 then some 0 else none
  | m, c :: r => if m ≤ 0 then some 0 else (ends (m - 1 + ari c) r).map (· + 1)

theorem goes_ends : ∀ (t : List C) (m : Int), 0 ≤ m → (goes m t = true ↔ (∀ c ∈ t, okC c = true) ∧ ends m t = some t.length)
  | [], m, hm => by
      simp only [goes, ends, List.length_nil]
      by_cases h : m = 0
      · simp [h]
      · have : ¬ m ≤ 0 := by omega
        simp [h, this]
  | c :: r, m, hm => by
      simp only [goes, ends, List.length_cons]
      by_cases h : m = 0
      · subst h; simp
      · have h0 : ¬ m ≤ 0 := by omega
        rw [if_neg h, if_neg h0]
        cases ho : okC c with
        | false => simp [ho]
        | true =>
          have ha := ari_ok ho
          have ih := goes_ends r (m - 1 + ari c) (by omega)
          rw [if_neg (by simp), show m + (ari c - 1) = m - 1 + ari c by omega, ih]
          simp [ho]

theorem trm_iff (t : List C) : trm t = true ↔ 1 ≤ t.length ∧ t.length ≤ 40 ∧ (∀ c ∈ t, okC c = true) ∧ ends 1 t = some t.length := by
  unfold trm
  rw [Bool.and_eq_true, goes_ends t 1 (by omega)]
  cases t with
  | nil => simp [ends]
  | cons c r => simp
end Go.Proofs.Ytkedckmpjedjoaa

/- Places of terms in memory: a slice that holds them, and what keeps it. -/
namespace Go.Proofs.Ytkedckmpjedjoaa
open Go.RowKit
set_option linter.unusedVariables false
set_option linter.unusedSimpArgs false

theorem hide {p : Prop} (h : p) : Hid p := h
theorem unhide {p : Prop} (h : Hid p) : p := h

/-- From cell 'off' of block b on lie the places t, three cells each. -/
def At (w : World) (b off : Nat) (t : List C) : Prop :=
  ∀ i, (h : i < t.length) → w.cell? ⟨b, off + i * 3, none⟩ = some (.int .i64 t[i].k) ∧ w.cell? ⟨b, off + i * 3 + 1, none⟩ = some (.int .i64 t[i].n) ∧ w.cell? ⟨b, off + i * 3 + 2, none⟩ = some (.string t[i].s)

/-- A slice's address leads to the places t. -/
def Row (w : World) (ao : Option Addr) (t : List C) : Prop := t = [] ∨ ∃ b off, ao = some ⟨b, off, none⟩ ∧ At w b off t

/-- All names are within the length that a text may have. -/
def Fit (t : List C) : Prop := ∀ c ∈ t, c.s.size ≤ maxLen

theorem Fit.get {t : List C} (h : Fit t) (i : Nat) (hi : i < t.length) : t[i].s.size ≤ maxLen := h _ (List.getElem_mem hi)

theorem At.kept {w w' : World} {b off : Nat} {t : List C} (h : At w b off t) (hb : w'.heap[b]? = w.heap[b]?) : At w' b off t := fun i hi =>
  ⟨(World.cell?_of_block (a := ⟨b, _, none⟩) hb).trans (h i hi).1, (World.cell?_of_block (a := ⟨b, _, none⟩) hb).trans (h i hi).2.1, (World.cell?_of_block (a := ⟨b, _, none⟩) hb).trans (h i hi).2.2⟩

theorem At.lt {w : World} {b off : Nat} {t : List C} (h : At w b off t) (hl : 0 < t.length) : b < w.heap.size :=
  World.block_lt_of_cell? w ⟨b, _, none⟩ (h 0 hl).1

theorem At.below {w w' : World} {b off : Nat} {t : List C} (h : At w b off t) (hb : Below w.heap.size w w') : At w' b off t := fun i hi =>
  (h.kept (hb.block b (h.lt (by omega)))) i hi

theorem Row.below {w w' : World} {ao : Option Addr} {t : List C} (h : Row w ao t) (hb : Below w.heap.size w w') : Row w' ao t := by
  rcases h with h | ⟨b, off, e, h⟩
  · exact .inl h
  · exact .inr ⟨b, off, e, h.below hb⟩

/-- One call behind another: what was there ahead of both is as it was. -/
theorem bstep {w w1 w2 : World} (h : Below w.heap.size w w1) (k : Below w1.heap.size w1 w2) : Below w.heap.size w w2 := h.trans (k.mono h.size)
end Go.Proofs.Ytkedckmpjedjoaa

/- Arguments of the laws, opened: places that came in (a slice of structs of three fields). -/
namespace Go.Proofs.Ytkedckmpjedjoaa
open Go.RowKit Go.Deep Go.ChangeShapes Go.WideShapes
set_option linter.unusedVariables false
set_option linter.unusedSimpArgs false

theorem own_knob : ownKnob Try.prog.godebug = none := by kernel_rfl
theorem laid_out : laidOutB Try.prog = true := by kernel_rfl
theorem Try.cellsLaw : Try.prog.cellsOf 90 = 3 := by kernel_rfl
theorem Try.cellsInt : Try.prog.cellsOf 3 = 1 := by kernel_rfl
theorem Try.cellsStr : Try.prog.cellsOf 9 = 1 := by kernel_rfl

theorem add_zero_spot {b off : Nat} (i : Nat) : (⟨b, off, none⟩ : Addr).add i = ⟨b, off + i, none⟩ := by
  unfold Addr.add
  by_cases h : i = 0
  · simp [h]
  · simp [h]

theorem choose_C {n : Nat} {p : Nat → C → Prop} (h : ∀ i, i < n → ∃ x, p i x) : ∃ f : Nat → C, ∀ i, i < n → p i (f i) := by
  classical
  refine ⟨fun i => if hi : i < n then Classical.choose (h i hi) else ⟨0, 0, ByteArray.empty⟩, fun i hi => ?_⟩
  simp only [dif_pos hi]
  exact Classical.choose_spec (h i hi)

/-- All numbers of places fit an int. -/
def WfC (t : List C) : Prop := ∀ c ∈ t, (Lit.int .i64 c.k).wf = true ∧ (Lit.int .i64 c.n).wf = true

set_option maxRecDepth 100000 in
/-- A slice of places that came in leads to places. -/
theorem open_cells {H : Type} {enc : TypeId × Value → H} {W : World} {a : Option Addr} {len cap : Nat} {d : DataW H} {p : List MemPlace}
    (h : DataW.Trod enc Try.prog W 0 (fun _ => true) true 36 (.slice a len cap) d p) :
    ∃ t : List C, t.length = len ∧ len ≤ maxLen ∧ Row W a t ∧ Fit t ∧ WfC t := by
  obtain ⟨fuel, hf⟩ := h
  rcases open_slice Try.underlying36 hf with ⟨hcs, _⟩ | ⟨x, l, c, m, n, D, Pl, hcs, _, hl, hm, hmm, _, hx⟩
  · simp [Value.cells] at hcs
    obtain ⟨rfl, rfl, rfl⟩ := hcs
    exact ⟨[], rfl, by simp [maxLen], .inl rfl, fun c hc => by simp at hc, fun c hc => by simp at hc⟩
  · simp [Value.cells] at hcs
    obtain ⟨rfl, rfl, rfl⟩ := hcs
    simp only [if_true] at hmm
    have each : ∀ i, i < len → ∃ q : C, W.cell? (x.add (i * 3)) = some (.int .i64 q.k) ∧ W.cell? (x.add (i * 3 + 1)) = some (.int .i64 q.n) ∧ W.cell? (x.add (i * 3 + 2)) = some (.string q.s) ∧
        q.s.size ≤ maxLen ∧ (Lit.int .i64 q.k).wf = true ∧ (Lit.int .i64 q.n).wf = true := fun i hi => by
      obtain ⟨cs', h1, h2⟩ := hx i (by omega)
      rw [Try.cellsLaw] at h1
      obtain ⟨_, hlen, hcell⟩ := World.cells?_some h1
      obtain ⟨y0, y1, y2, n', _, _, t0, t1, t2⟩ := trod_struct3 Try.underlying90 h2
      match cs', hlen with
      | [v0, v1, v2], _ =>
        have k0 := hcell 0 (by omega)
        have k1 := hcell 1 (by omega)
        have k2 := hcell 2 (by omega)
        simp only [Try.cellsInt, Try.cellsStr] at t0 t1 t2
        obtain ⟨z0, e0, _, w0⟩ := DataW.trod_int Try.underlying3 t0
        obtain ⟨z1, e1, _, w1⟩ := DataW.trod_int Try.underlying3 t1
        obtain ⟨s2, e2, _, hs⟩ := DataW.trod_string Try.underlying9 t2
        simp at e0 e1 e2 k0 k1 k2
        subst e0 e1 e2
        rw [add_add] at k0 k1 k2
        exact ⟨⟨z0, z1, s2⟩, k0, k1, k2, hs, w0, w1⟩
    obtain ⟨b, off, spot⟩ := x
    by_cases h0 : len = 0
    · subst h0
      exact ⟨[], rfl, by omega, .inl rfl, fun c hc => by simp at hc, fun c hc => by simp at hc⟩
    · have hsp : spot = none := by
        obtain ⟨q, hq, _⟩ := each 0 (by omega)
        simpa [Addr.add] using World.cell?_spot hq
      subst hsp
      simp only [add_zero_spot] at each
      obtain ⟨f, hfn⟩ := choose_C each
      have hget : ∀ i, (hi : i < ((List.range len).map f).length) → ((List.range len).map f)[i] = f i := fun i hi => by simp
      refine ⟨(List.range len).map f, by simp, by omega, .inr ⟨b, off, rfl, fun i hi => ?_⟩, fun c hc => ?_, fun c hc => ?_⟩
      · rw [hget i hi]
        have := hfn i (by simpa using hi)
        exact ⟨this.1, this.2.1, this.2.2.1⟩
      · obtain ⟨i, hi, rfl⟩ := List.mem_map.1 hc
        exact (hfn i (by simpa using hi)).2.2.2.1
      · obtain ⟨i, hi, rfl⟩ := List.mem_map.1 hc
        exact (hfn i (by simpa using hi)).2.2.2.2
end Go.Proofs.Ytkedckmpjedjoaa
