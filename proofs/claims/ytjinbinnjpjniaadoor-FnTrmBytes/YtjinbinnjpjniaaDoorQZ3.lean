/- The reader of bytes: a place. -/
import Derived.Test.YtjinbinnjpjniaaDoorQZ2
import Derived.Test.YtjinbinnjpjniaaDoorQYB4
import Derived.Laws.BytesString
import Derived.Deep.WholeRow
namespace Go.Proofs.YtjinbinnjpjniaaDoor
open Go.RowKit
set_option linter.unusedVariables false
set_option linter.unusedSimpArgs false

theorem conv_str (w : World) (ao : Option Addr) (cap : Nat) (z : List Int) (hR : RowY w ao z) : (convert 22 9 (.slice ao z.length cap)).run Tryd.prog w = .ok (.string (strOf z)) w := by
  rw [run_convert_bytes_string w 22 9 5 ao z.length cap Tryd.underlying22 Tryd.underlying5 Tryd.underlying9]
  cases ao with
  | none =>
    rcases hR with rfl | ⟨b, off, e, _⟩
    · simp [Conv.bytesToString, strOf, Sem.run_pure]
    · cases e
  | some a =>
    refine run_bytesToString w a z.length cap z ?_
    have := run_loadCells_list (P := Tryd.prog) w a (bys z) (fun j v hj => by
      have hjl : j < z.length := by
        have := (List.getElem?_eq_some_iff.1 hj).1
        simpa [bys] using this
      rcases hR with rfl | ⟨b, off, e, hA⟩
      · simp at hjl
      · simp only [Option.some.injEq] at e
        subst e
        rw [bys_get z j hjl] at hj
        have e : (⟨b, off, none⟩ : Addr).add j = ⟨b, off + j, none⟩ := by unfold Addr.add; split <;> simp_all
        rw [e, hA j hjl]
        exact hj)
    rw [bys_length] at this
    exact this

theorem rdC_short {Y : List Int} (h : Y.length < 4) : rdC Y = none := by
  unfold rdC
  split
  · simp at h; omega
  · rfl
theorem long4 {Y : List Int} (h : 4 ≤ Y.length) : ∃ k a b c r, Y = k :: a :: b :: c :: r := by
  match Y, h with
  | k :: a :: b :: c :: r, _ => exact ⟨k, a, b, c, r, rfl⟩
theorem tk_no {y : List Int} {p n : Nat} (h : y.length < p + n) : tkE false y p n = true ∧ tkZ false y p n = [] := by
  have e : tkE false y p n = true := by simp [tkE, h]
  exact ⟨e, by simp [tkZ, e]⟩
theorem tk_yes {y : List Int} {p n : Nat} (h : p + n ≤ y.length) : tkE false y p n = false ∧ tkZ false y p n = (y.drop p).take n := by
  have e : tkE false y p n = false := by simp [tkE]; omega
  exact ⟨e, by simp [tkZ, e]⟩
theorem tk_err (y : List Int) (p n : Nat) : tkE true y p n = true ∧ tkZ true y p n = [] := ⟨rfl, rfl⟩

/-- What is left of four bytes' reading. -/
theorem four {er : Bool} {y : List Int} {p : Nat} (hp : p ≤ y.length) : (tkE (tkE er y p 1) y (p + (tkZ er y p 1).length) 3 = true ∧ (er = true ∨ y.length < p + 4)) ∨
    (er = false ∧ tkE er y p 1 = false ∧ tkE (tkE er y p 1) y (p + (tkZ er y p 1).length) 3 = false ∧ ∃ k a b c r, y.drop p = k :: a :: b :: c :: r ∧ y.drop (p + 4) = r ∧ tkZ er y p 1 = [k] ∧ tkZ (tkE er y p 1) y (p + (tkZ er y p 1).length) 3 = [a, b, c]) := by
  cases er with
  | true => exact .inl ⟨rfl, .inl rfl⟩
  | false =>
    by_cases h1 : p + 1 ≤ y.length
    · obtain ⟨e1, z1⟩ := tk_yes h1
      have hl : (tkZ false y p 1).length = 1 := by rw [z1]; simp; omega
      rw [e1, hl]
      by_cases h4 : p + 4 ≤ y.length
      · right
        obtain ⟨e2, z2⟩ := tk_yes (y := y) (p := p + 1) (n := 3) (by omega)
        obtain ⟨k, a, b, c, r, hY⟩ := long4 (Y := y.drop p) (by simp; omega)
        have hr : y.drop (p + 4) = r := by rw [← List.drop_drop, hY]; rfl
        have ha : y.drop (p + 1) = a :: b :: c :: r := by rw [← List.drop_drop, hY]; rfl
        exact ⟨rfl, rfl, e2, k, a, b, c, r, hY, hr, by rw [z1, hY]; rfl, by rw [z2, ha]; rfl⟩
      · left
        exact ⟨(tk_no (by omega)).1, .inr (by omega)⟩
    · obtain ⟨e1, z1⟩ := tk_no (y := y) (p := p) (n := 1) (by omega)
      rw [e1]
      exact .inl ⟨rfl, .inr (by omega)⟩

/-- What the reading of a place comes to. -/
def CellR (er : Bool) (y : List Int) (p : Nat) (c : C) (p' : Nat) (er' : Bool) : Prop :=
  c.s.size ≤ 255 ∧ p ≤ p' ∧ p' ≤ y.length ∧ ((er' = true ∧ (er = true ∨ rdC (y.drop p) = none)) ∨ (er' = false ∧ er = false ∧ rdC (y.drop p) = some (c, y.drop p')))

theorem cellR_plain {er : Bool} {y : List Int} {p : Nat} (hp : p ≤ y.length) (h3 : hiL (tkZ er y p 1) ≠ 3) :
    CellR er y p ⟨hiL (tkZ er y p 1), hiL (tkZ (tkE er y p 1) y (p + (tkZ er y p 1).length) 3) - 100000, ByteArray.empty⟩ (p + (tkZ er y p 1).length + (tkZ (tkE er y p 1) y (p + (tkZ er y p 1).length) 3).length) (tkE (tkE er y p 1) y (p + (tkZ er y p 1).length) 3) := by
  have h1 := tkZ_place er y p 1 hp
  have h2 := tkZ_place (tkE er y p 1) y _ 3 h1
  refine ⟨by simp, by omega, h2, ?_⟩
  rcases four (er := er) hp with ⟨e, h | h⟩ | ⟨e0, e1, e2, k, a, b, c, r, hY, hr, z1, z2⟩
  · exact .inl ⟨e, .inl h⟩
  · exact .inl ⟨e, .inr (rdC_short (by simp; omega))⟩
  · right
    refine ⟨e2, e0, ?_⟩
    have hk : hiL [k] = k := by simp [hiL]
    have hn : hiL [a, b, c] - 100000 = valN a b c := by simp [hiL, valN]; omega
    rw [z1, hk] at h3
    rw [z2, z1, hk, hn, hY]
    have hk3 : k ≠ 3 := by omega
    simp [rdC, hk3, hr]
theorem cellR_name {er : Bool} {y : List Int} {p : Nat} (hy : ByL y) (hp : p ≤ y.length) (h3 : hiL (tkZ er y p 1) = 3) (z1 z2 z3 z4 : List Int) (e1 e2 e3 e4 : Bool) (p1 p2 p3 p4 : Nat) (l : Int)
    (hz1 : z1 = tkZ er y p 1) (he1 : e1 = tkE er y p 1) (hp1 : p1 = p + z1.length) (hz2 : z2 = tkZ e1 y p1 3) (he2 : e2 = tkE e1 y p1 3) (hp2 : p2 = p1 + z2.length)
    (hz3 : z3 = tkZ e2 y p2 1) (he3 : e3 = tkE e2 y p2 1) (hp3 : p3 = p2 + z3.length) (hl : l = hiL z3) (hz4 : z4 = tkZ e3 y p3 l.toNat) (he4 : e4 = tkE e3 y p3 l.toNat) (hp4 : p4 = p3 + z4.length) :
    CellR er y p ⟨3, hiL z2 - 100000, strOf z4⟩ p4 e4 := by
  have q1 : p1 ≤ y.length := by subst hz1 he1 hp1; exact tkZ_place er y p 1 hp
  have q2 : p2 ≤ y.length := by subst hz2 he2 hp2; exact tkZ_place e1 y p1 3 q1
  have q3 : p3 ≤ y.length := by subst hz3 he3 hp3; exact tkZ_place e2 y p2 1 q2
  have q4 : p4 ≤ y.length := by subst hz4 he4 hp4; exact tkZ_place e3 y p3 _ q3
  have hl2 : 0 ≤ l ∧ l ≤ 255 := by
    have hl1 := tkZ_len e2 y p2 1
    have := hiL_in (tkZ_by (er := e2) (p := p2) (n := 1) hy) _ (Nat.le_refl _) (by omega)
    rw [List.take_length, ← hz3] at this
    rw [← hz3] at hl1
    rcases (show z3.length = 0 ∨ z3.length = 1 by omega) with e | e <;> rw [e] at this <;> simp at this <;> omega
  refine ⟨?_, by omega, q4, ?_⟩
  · show (strOf z4).size ≤ 255
    rw [strOf_size, hz4]
    have := tkZ_len e3 y p3 l.toNat
    omega
  rcases four (er := er) hp with ⟨e, h⟩ | ⟨e0, ee1, ee2, k, a, b, c, r, hY, hr, zz1, zz2⟩
  · left
    have ee : e2 = true := by subst he2 he1 hp1 hz1; exact e
    have ee3 : e3 = true := by rw [he3, ee]; rfl
    refine ⟨by rw [he4, ee3]; rfl, ?_⟩
    rcases h with h | h
    · exact .inl h
    · exact .inr (rdC_short (by simp; omega))
  · have x1 : e2 = false := by subst he2 he1 hp1 hz1; exact ee2
    have x2 : z2 = [a, b, c] := by subst hz2 he1 hp1 hz1; exact zz2
    have x3 : z1 = [k] := by subst hz1; exact zz1
    have x4 : p2 = p + 4 := by rw [hp2, hp1, x2, x3]; rfl
    have hk : hiL [k] = k := by simp [hiL]
    have hn : hiL [a, b, c] - 100000 = valN a b c := by simp [hiL, valN]; omega
    rw [← hz1, x3, hk] at h3
    have hk3 : k = 3 := by omega
    rw [x1, x4] at hz3 he3
    rw [x4] at hp3
    by_cases h5 : p + 4 + 1 ≤ y.length
    · obtain ⟨t1, t2⟩ := tk_yes h5
      rw [hr] at t2
      cases r with
      | nil => exfalso; have := congrArg List.length hr; simp at this; omega
      | cons m s =>
        have zs : z3 = [m] := by rw [hz3, t2]; rfl
        have hm : hiL [m] = m := by simp [hiL]
        have hs : y.drop (p + 4 + 1) = s := by rw [← List.drop_drop, hr]; rfl
        have hlm : l = m := by rw [hl, zs, hm]
        have hp3' : p3 = p + 4 + 1 := by rw [hp3, zs]; rfl
        rw [he3, t1, hp3', hlm] at hz4 he4
        have hsl : s.length = y.length - (p + 4 + 1) := by rw [← hs]; simp
        by_cases h6 : p + 4 + 1 + m.toNat ≤ y.length
        · obtain ⟨t3, t4⟩ := tk_yes h6
          right
          refine ⟨by rw [he4, t3], e0, ?_⟩
          rw [hs] at t4
          have hz4l : z4.length = m.toNat := by rw [hz4, t4]; simp; omega
          have hd : y.drop p4 = s.drop m.toNat := by rw [hp4, hp3', hz4l, ← List.drop_drop, hs]
          rw [hY, hd, x2, hn, hz4, t4]
          simp only [rdC, hk3, if_true]
          rw [if_pos (by omega)]
        · obtain ⟨t3, t4⟩ := tk_no (y := y) (p := p + 4 + 1) (n := m.toNat) (by omega)
          left
          refine ⟨by rw [he4, t3], .inr ?_⟩
          rw [hY]
          simp only [rdC, hk3, if_true]
          rw [if_neg (by omega)]
    · obtain ⟨t1, t2⟩ := tk_no (y := y) (p := p + 4) (n := 1) (by omega)
      left
      refine ⟨by rw [he4, he3, t1]; rfl, .inr ?_⟩
      have : r = [] := by rw [← hr]; simp; omega
      rw [hY, this]
      simp [rdC, hk3]
end Go.Proofs.YtjinbinnjpjniaaDoor
