import Derived.Test.YtonpahhcfgdeoaaDoorQZ10Z11Z12
import Derived.Test.YtonpahhcfgdeoaaDoorQZ1Z2Z3
import Derived.Deep.RegionHeld3
/- Places, terms and messages out of bytes: what stands behind them does not matter. -/
namespace Go.Proofs.YtonpahhcfgdeoaaDoor
set_option linter.unusedVariables false
set_option linter.unusedSimpArgs false

theorem rdC_more {y : List Int} {c : C} {r : List Int} (s : List Int) (h : rdC y = some (c, r)) : rdC (y ++ s) = some (c, r ++ s) := by
  unfold rdC at h
  split at h
  · rename_i k a b c' r'
    split at h
    · rename_i h3
      split at h
      · rename_i l t
        split at h
        · rename_i hle
          simp only [Option.some.injEq, Prod.mk.injEq] at h
          obtain ⟨rfl, rfl⟩ := h
          simp only [List.cons_append, rdC, h3, if_true]
          rw [if_pos (by simp; omega), List.take_append_of_le_length hle, List.drop_append_of_le_length hle]
        · cases h
      · cases h
    · rename_i h3
      simp only [Option.some.injEq, Prod.mk.injEq] at h
      obtain ⟨rfl, rfl⟩ := h
      simp [rdC, h3]
  · cases h
/-- What is left is an end of what there was. -/
theorem rdC_end {y : List Int} {c : C} {r : List Int} (h : rdC y = some (c, r)) : ∃ a, y = a ++ r := by
  obtain ⟨m, _, e⟩ := rdC_suffix h
  exact ⟨y.take m, by rw [e]; simp⟩
/-- Enough being left, the end may be left away. -/
theorem rdC_less {y s : List Int} {c : C} {r : List Int} (h : rdC (y ++ s) = some (c, r)) (hl : s.length ≤ r.length) : ∃ r', r = r' ++ s ∧ rdC y = some (c, r') := by
  cases hy : rdC y with
  | some x =>
    have := rdC_more s (c := x.1) (r := x.2) (by rw [hy])
    rw [this] at h
    simp only [Option.some.injEq, Prod.mk.injEq] at h
    exact ⟨x.2, h.2.symm, by rw [h.1.symm]⟩
  | none =>
    exfalso
    unfold rdC at hy
    split at hy
    · rename_i k a b c' r'
      split at hy
      · rename_i h3
        split at hy
        · rename_i l t
          split at hy
          · cases hy
          · rename_i hle
            simp only [List.cons_append, rdC, h3, if_true] at h
            split at h
            · rename_i hle2
              rw [List.length_append] at hle2
              simp only [Option.some.injEq, Prod.mk.injEq] at h
              have := congrArg List.length h.2
              rw [List.length_drop, List.length_append] at this
              omega
            · cases h
        · simp only [List.cons_append, List.nil_append, rdC, h3, if_true] at h
          cases s with
          | nil => cases h
          | cons l t =>
            simp only at h
            split at h
            · simp only [Option.some.injEq, Prod.mk.injEq] at h
              have := congrArg List.length h.2
              simp at this hl
              omega
            · cases h
      · cases hy
    · rename_i hno
      have hlen : y.length < 4 := by
        rcases Nat.lt_or_ge y.length 4 with h' | h'
        · exact h'
        · exfalso
          match y, h' with
          | k :: a :: b :: c :: r, _ => exact hno k a b c r rfl
      unfold rdC at h
      split at h
      · rename_i k a b c' r' e
        have he := congrArg List.length e
        simp at he
        split at h
        · split at h
          · split at h
            · simp only [Option.some.injEq, Prod.mk.injEq] at h
              have := congrArg List.length h.2
              simp at this he
              omega
            · cases h
          · cases h
        · simp only [Option.some.injEq, Prod.mk.injEq] at h
          rw [← h.2] at hl
          omega
      · cases h

theorem rdN_more (s : List Int) : ∀ (n : Nat) (y : List Int) (t : List C) (r : List Int), rdN n y = some (t, r) → rdN n (y ++ s) = some (t, r ++ s)
  | 0, y, t, r, h => by
      simp [rdN] at h
      obtain ⟨rfl, rfl⟩ := h
      simp [rdN]
  | n + 1, y, t, r, h => by
      rw [rdN] at h
      split at h
      · rename_i c r' hc
        cases hn : rdN n r' with
        | none => rw [hn] at h; cases h
        | some x =>
          rw [hn] at h
          simp only [Option.map_some, Option.some.injEq, Prod.mk.injEq] at h
          obtain ⟨rfl, rfl⟩ := h
          rw [rdN, rdC_more s hc]
          simp only
          rw [rdN_more s n r' x.1 x.2 (by rw [hn])]
          rfl
      · cases h
theorem rdN_short {n : Nat} {y : List Int} {t : List C} {r : List Int} (h : rdN n y = some (t, r)) : r.length ≤ y.length := by
  induction n generalizing y t with
  | zero => simp [rdN] at h; rw [h.2]; exact Nat.le_refl _
  | succ n ih =>
    rw [rdN] at h
    split at h
    · rename_i c r' hc
      cases hn : rdN n r' with
      | none => rw [hn] at h; cases h
      | some x =>
        rw [hn] at h
        simp only [Option.map_some, Option.some.injEq, Prod.mk.injEq] at h
        obtain ⟨a, ha⟩ := rdC_end hc
        have := ih (y := r') (t := x.1) (by rw [hn, ← h.2])
        rw [ha, List.length_append]
        omega
    · cases h
theorem rdN_less (s : List Int) : ∀ (n : Nat) (y : List Int) (t : List C) (r : List Int), rdN n (y ++ s) = some (t, r) → s.length ≤ r.length → ∃ r', r = r' ++ s ∧ rdN n y = some (t, r')
  | 0, y, t, r, h, hl => by
      simp [rdN] at h
      obtain ⟨rfl, rfl⟩ := h
      exact ⟨y, rfl, rfl⟩
  | n + 1, y, t, r, h, hl => by
      rw [rdN] at h
      split at h
      · rename_i c r1 hc
        cases hn : rdN n r1 with
        | none => rw [hn] at h; cases h
        | some x =>
          rw [hn] at h
          simp only [Option.map_some, Option.some.injEq, Prod.mk.injEq] at h
          obtain ⟨rfl, rfl⟩ := h
          have hsh := rdN_short (t := x.1) (r := x.2) (by rw [hn])
          obtain ⟨q, rfl, hq⟩ := rdC_less hc (by omega)
          obtain ⟨r', e, hr⟩ := rdN_less s n q x.1 x.2 (by rw [hn]) hl
          refine ⟨r', e, ?_⟩
          rw [rdN, hq]
          simp only
          rw [hr]
          rfl
      · cases h
end Go.Proofs.YtonpahhcfgdeoaaDoor

/- The specification: numbers and places out of bytes. -/
namespace Go.Proofs.YtonpahhcfgdeoaaDoor
open Go.RowKit
set_option linter.unusedVariables false
set_option linter.unusedSimpArgs false

/-- Three bytes from a place on. -/
def numAt (y : List Int) (p : Nat) : Option Int := match y.drop p with
  | a :: b :: c :: _ => some (valN a b c)
  | _ => none
theorem numAt_no {y : List Int} {p : Nat} (h : y.length < p + 3) : numAt y p = none := by
  unfold numAt
  split
  · rename_i e
    have := congrArg List.length e
    simp at this
    omega
  · rfl
theorem numAt_yes {y : List Int} {p : Nat} (h : p + 3 ≤ y.length) : numAt y p = some (valN y[p] y[p + 1] y[p + 2]) := by
  unfold numAt
  rw [List.drop_eq_getElem_cons (by omega), List.drop_eq_getElem_cons (by omega), List.drop_eq_getElem_cons (by omega)]

set_option maxRecDepth 100000 in
set_option maxHeartbeats 4000000 in
theorem l6Num_no (ao : Option Addr) (cap : Nat) (y : List Int) (p : Nat) (w : World) (h : y.length < p + 3) (hp : p ≤ y.length + 2) (hl : y.length ≤ 1048576) :
    Calls Tryd.prog 13 #[.slice ao y.length cap, .int .i64 p] w fun e w' => e = .returned (.tuple #[.int .i64 0, .bool false]) ∧ w' = w := by
  go_enter Tryd.func13, Tryd.ntmps13
  go_wp2
  exact bodyPost_ret (v := .tuple #[.int .i64 0, .bool false]) (by simp [results, Tryd.results13, go_sem]) rfl ⟨rfl, rfl⟩
set_option maxRecDepth 100000 in
set_option maxHeartbeats 4000000 in
theorem l6Num_yes (b off cap : Nat) (y : List Int) (p : Nat) (w : World) (hA : AtY w b off y) (hy : ByL y) (h : p + 3 ≤ y.length) (hl : y.length ≤ 1048576) :
    Calls Tryd.prog 13 #[.slice (some ⟨b, off, none⟩) y.length cap, .int .i64 p] w fun e w' => e = .returned (.tuple #[.int .i64 (valN y[p] y[p + 1] y[p + 2]), .bool true]) ∧ ∃ n, w' = w.drewN n := by
  have d0 := hA p (by omega)
  have d1 := hA (p + 1) (by omega)
  have d2 := hA (p + 2) (by omega)
  have b0 := hy.get p (by omega)
  have b1 := hy.get (p + 1) (by omega)
  have b2 := hy.get (p + 2) (by omega)
  obtain ⟨a, ha⟩ : ∃ a, a = y[p] := ⟨_, rfl⟩
  obtain ⟨x, hx⟩ : ∃ x, x = y[p + 1] := ⟨_, rfl⟩
  obtain ⟨c, hc⟩ : ∃ c, c = y[p + 2] := ⟨_, rfl⟩
  rw [← ha] at d0 b0
  rw [← hx] at d1 b1
  rw [← hc] at d2 b2
  rw [← ha, ← hx, ← hc]
  clear ha hx hc hA hy
  go_enter Tryd.func13, Tryd.ntmps13
  go_wp2
  go_quiet (fail)
  go_wp2
  rw [show a * 65536 + x * 256 + c - 99999 - 1 = valN a x c by unfold valN; omega]
  exact bodyPost_ret (v := .tuple #[.int .i64 (valN a x c), .bool true]) (by simp [results, Tryd.results13, go_sem]) rfl ⟨rfl, _, rfl⟩

theorem belowDrewN (w : World) (n : Nat) : Below w.heap.size w (w.drewN n) := by
  have h := Below.refl w.heap.size w
  exact ⟨h.os, h.tape, h.output, h.size, h.block⟩

/-- What the reading of a place comes to. -/
def CellS (w : World) (y : List Int) (p : Nat) (e : Ending) (w' : World) : Prop :=
  ∃ (c : C) (q : Int), e = .returned (.tuple #[.agg #[.int .i64 c.k, .int .i64 c.n, .string c.s], .int .i64 q]) ∧
    ((q = -1 ∧ rdC (y.drop p) = none) ∨ ∃ q' : Nat, q = q' ∧ p ≤ q' ∧ q' ≤ y.length ∧ c.s.size ≤ 255 ∧ rdC (y.drop p) = some (c, y.drop q')) ∧ Below w.heap.size w w'
theorem cellS_no {w w' : World} {y : List Int} {p : Nat} (h : rdC (y.drop p) = none) (hB : Below w.heap.size w w') : CellS w y p (.returned (.tuple #[.agg #[.int .i64 0, .int .i64 0, .string ByteArray.empty], .int .i64 (-1)])) w' :=
  ⟨⟨0, 0, ByteArray.empty⟩, -1, rfl, .inl ⟨rfl, h⟩, hB⟩
theorem cellS_yes {w w' : World} {y : List Int} {p q : Nat} {c : C} (h : rdC (y.drop p) = some (c, y.drop q)) (h1 : p ≤ q) (h2 : q ≤ y.length) (h3 : c.s.size ≤ 255) (hB : Below w.heap.size w w') : CellS w y p (.returned (.tuple #[.agg #[.int .i64 c.k, .int .i64 c.n, .string c.s], .int .i64 q])) w' :=
  ⟨c, q, rfl, .inr ⟨q, rfl, h1, h2, h3, h⟩, hB⟩

theorem below_set3 {w W : World} (h : Below w.heap.size w W) {k : Nat} (hk : w.heap.size ≤ k) (a b c : Value) : Below w.heap.size w (((W.setCell ⟨k, 0, none⟩ a).setCell ⟨k, 1, none⟩ b).setCell ⟨k, 2, none⟩ c) :=
  ((h.setCell (p := ⟨k, 0, none⟩) hk _).setCell (p := ⟨k, 1, none⟩) hk _).setCell (p := ⟨k, 2, none⟩) hk _
theorem drop4 {y : List Int} {p : Nat} (h : p + 4 ≤ y.length) : y.drop p = y[p] :: y[p + 1] :: y[p + 1 + 1] :: y[p + 1 + 2] :: y.drop (p + 4) := by
  rw [List.drop_eq_getElem_cons (by omega), List.drop_eq_getElem_cons (by omega), List.drop_eq_getElem_cons (by omega), List.drop_eq_getElem_cons (by omega)]

set_option maxRecDepth 100000 in
set_option maxHeartbeats 4000000 in
theorem l6Cell_short (ao : Option Addr) (cap : Nat) (y : List Int) (p : Nat) (w : World) (h : y.length < p + 4) (hp : p ≤ y.length) (hl : y.length ≤ 1048576) :
    Calls Tryd.prog 27 #[.slice ao y.length cap, .int .i64 p] w (CellS w y p) := by
  have HN := hide (fun W : World => l6Num_no ao cap y (p + 1) W (by omega) (by omega) hl)
  have HR := hide (rdC_short (Y := y.drop p) (by simp; omega))
  go_enter Tryd.func27, Tryd.ntmps27
  go_wp2_with fail
  rw [show ((p : Int) + 1) = ((p + 1 : Nat) : Int) by omega]
  refine (unhide HN _).mono ?_
  rintro e w1 ⟨rfl, rfl⟩
  go_wp2
  exact bodyPost_ret (v := .tuple #[.agg #[.int .i64 0, .int .i64 0, .string ByteArray.empty], .int .i64 (-1)]) (by simp [results, Tryd.results27, go_sem]; rfl) rfl (cellS_no (unhide HR) (cell_below _ _))

theorem six_c {w : World} {B : Nat} {a0 a1 a2 : Value} {T : TypeId} (h : w.heap[B]? = some (.cells #[a0, a1, a2] T (0, 0))) :
    (w.cell? ⟨B, 0, none⟩ = some a0 ∧ w.cell? ⟨B, 1, none⟩ = some a1 ∧ w.cell? ⟨B, 2, none⟩ = some a2) ∧ w.frozen? ⟨B, 0, none⟩ = false ∧ w.frozen? ⟨B, 1, none⟩ = false ∧ w.frozen? ⟨B, 2, none⟩ = false := by
  refine ⟨⟨?_, ?_, ?_⟩, ?_, ?_, ?_⟩ <;> (simp only [World.cell?, World.frozen?]; rw [h]; rfl)

set_option maxRecDepth 100000 in
set_option maxHeartbeats 4000000 in
theorem l6Cell_long (b off cap : Nat) (y : List Int) (p : Nat) (w : World) (hA : AtY w b off y) (hy : ByL y) (h : p + 4 ≤ y.length) (hl : y.length ≤ 1048576) (hc : y.length ≤ cap) :
    Calls Tryd.prog 27 #[.slice (some ⟨b, off, none⟩) y.length cap, .int .i64 p] w (CellS w y p) := by
  have hbl : b < w.heap.size := hA.lt (by omega)
  have HN := hide (fun (W : World) (hB : Below w.heap.size w W) => l6Num_yes b off cap y (p + 1) W (hA.below hB) hy (by omega) hl)
  have HA := hide hA
  have HY := hide hy
  have HD := hide (drop4 h)
  have d0 := hA p (by omega)
  have b0 := hy.get p (by omega)
  obtain ⟨k, hk⟩ : ∃ k, k = y[p] := ⟨_, rfl⟩
  rw [← hk] at d0 b0 HD
  obtain ⟨x1, hx1⟩ : ∃ x1, x1 = y[p + 1] := ⟨_, rfl⟩
  obtain ⟨x2, hx2⟩ : ∃ x2, x2 = y[p + 1 + 1] := ⟨_, rfl⟩
  obtain ⟨x3, hx3⟩ : ∃ x3, x3 = y[p + 1 + 2] := ⟨_, rfl⟩
  rw [← hx1, ← hx2, ← hx3] at HN HD
  obtain ⟨n, hn⟩ : ∃ n, n = valN x1 x2 x3 := ⟨_, rfl⟩
  rw [← hn] at HN
  have HV := hide hn
  clear hk hx1 hx2 hx3 hn hA hy
  go_enter Tryd.func27, Tryd.ntmps27
  go_wp2_with fail
  rw [show ((p : Int) + 1) = ((p + 1 : Nat) : Int) by omega]
  refine (unhide HN _ (cell_below _ _)).mono ?_
  rintro e w1 ⟨rfl, nq, rfl⟩
  obtain ⟨W, hW⟩ : ∃ W, W = (w.alloc (Obj.cells #[Value.int IntKind.i64 0, Value.int IntKind.i64 0, Value.string ⟨#[]⟩] 55)).drewN nq := ⟨_, rfl⟩
  have hBW : Below w.heap.size w W := by rw [hW]; exact bstep (cell_below w _) (belowDrewN _ _)
  have hXW : W.heap[w.heap.size]? = some (.cells #[.int .i64 0, .int .i64 0, .string ⟨#[]⟩] 55 (0, 0)) := by rw [hW]; exact heap_alloc_new w _
  have hsz : W.heap.size = w.heap.size + 1 := by rw [hW]; simp [World.drewN]
  have dW := (hBW.cell (p := ⟨b, off + p, none⟩) hbl).trans d0
  rw [← hW]
  clear hW
  obtain ⟨⟨a0, a1, a2⟩, a3, a4, a5⟩ := six_c hXW
  have hAW : w.heap.size < W.heap.size := by omega
  by_cases h3 : k = 3
  · subst h3
    by_cases h5 : p + 5 ≤ y.length
    · have d4 := (hBW.cell (p := ⟨b, off + (p + 4), none⟩) hbl).trans ((unhide HA) (p + 4) (by omega))
      have b4 := (unhide HY).get (p + 4) (by omega)
      have HE := hide (show y.drop (p + 4) = y[p + 4] :: y.drop (p + 5) from List.drop_eq_getElem_cons (by omega))
      obtain ⟨m, hm⟩ : ∃ m, m = y[p + 4] := ⟨_, rfl⟩
      rw [← hm] at d4 b4 HE
      clear hm
      obtain ⟨m, rfl⟩ := Int.eq_ofNat_of_zero_le b4.1
      by_cases h6 : p + 5 + m ≤ y.length
      · have HF : Hid (rdC (y.drop p) = some (⟨3, n, strOf ((y.drop (p + 5)).take m)⟩, y.drop (p + 5 + m))) := by
          show _ = _
          rw [unhide HD, unhide HE, unhide HV]
          simp only [rdC, if_true]
          rw [if_pos (by simp; omega)]
          simp
        have hsl : (strOf ((y.drop (p + 5)).take m)).size ≤ 255 := by rw [strOf_size]; simp; omega
        have hlm : ((y.drop (p + 5)).take m).length = m := by simp; omega
        have hrow := (((unhide HA).below (bstep hBW (cell_below W (Obj.cells #[Value.int IntKind.i64 3, Value.int IntKind.i64 n, Value.string ⟨#[]⟩] 55)))).drop (p + 5)).take m
        obtain ⟨z, hz⟩ : ∃ z, z = (y.drop (p + 5)).take m := ⟨_, rfl⟩
        rw [← hz] at hsl hlm hrow HF
        obtain ⟨s, hs⟩ : ∃ s, s = strOf z := ⟨_, rfl⟩
        have hcA := conv_str (W.alloc (Obj.cells #[Value.int IntKind.i64 3, Value.int IntKind.i64 n, Value.string ⟨#[]⟩] 55)) (some ⟨b, off + (p + 5), none⟩) (cap - (p + 5)) z (.of_at hrow)
        have hcB : m = 0 → _ := fun h0 : m = 0 => conv_str (W.alloc (Obj.cells #[Value.int IntKind.i64 3, Value.int IntKind.i64 n, Value.string ⟨#[]⟩] 55)) (some ⟨b, off, none⟩) 0 z (.inl (List.length_eq_zero_iff.1 (hlm.trans h0)))
        rw [hlm, ← hs] at hcA
        rw [hlm, ← hs] at hcB
        rw [← hs] at hsl HF
        have HG := hide (cellS_yes (w' := ((((W.setCell ⟨w.heap.size, 0, none⟩ (.int .i64 3)).setCell ⟨w.heap.size, 1, none⟩ (.int .i64 n)).setCell ⟨w.heap.size, 2, none⟩ (.string s)).alloc (Obj.cells #[Value.int IntKind.i64 3, Value.int IntKind.i64 n, Value.string s] 55))) (unhide HF) (by omega) h6 hsl (bstep (below_set3 hBW (Nat.le_refl _) _ _ _) (cell_below _ _)))
        clear hXW HA HY HD HV HN d0 HE hz hs hlm hrow HF hBW hsl
        by_cases hcap : cap = p + 5
        · subst hcap
          replace hcB := hcB (by omega)
          clear hcA
          go_wp2
          exact bodyPost_ret (v := .tuple #[.agg #[.int .i64 3, .int .i64 n, .string s], .int .i64 ((p + 5 + m : Nat) : Int)]) (by simp [results, Tryd.results27, go_sem, *]) rfl (unhide HG)
        · clear hcB
          go_wp2
          exact bodyPost_ret (v := .tuple #[.agg #[.int .i64 3, .int .i64 n, .string s], .int .i64 ((p + 5 + m : Nat) : Int)]) (by simp [results, Tryd.results27, go_sem, *]) rfl (unhide HG)
      · have HF := hide (cellS_no (y := y) (p := p) (w' := ((((W.setCell ⟨w.heap.size, 0, none⟩ (.int .i64 0)).setCell ⟨w.heap.size, 1, none⟩ (.int .i64 0)).setCell ⟨w.heap.size, 2, none⟩ (.string ⟨#[]⟩)).alloc (Obj.cells #[Value.int IntKind.i64 3, Value.int IntKind.i64 n, Value.string ⟨#[]⟩] 55))) (by rw [unhide HD, unhide HE]; simp only [rdC, if_true]; rw [if_neg (by simp; omega)]) (bstep (below_set3 hBW (Nat.le_refl _) _ _ _) (cell_below _ _)))
        clear hXW hBW HA HY HD HV HN d0 HE
        go_wp2
        exact bodyPost_ret (v := .tuple #[.agg #[.int .i64 0, .int .i64 0, .string ⟨#[]⟩], .int .i64 (-1)]) (by simp [results, Tryd.results27, go_sem, *]) rfl (unhide HF)
    · have HF := hide (cellS_no (y := y) (p := p) (w' := ((((W.setCell ⟨w.heap.size, 0, none⟩ (.int .i64 0)).setCell ⟨w.heap.size, 1, none⟩ (.int .i64 0)).setCell ⟨w.heap.size, 2, none⟩ (.string ⟨#[]⟩)).alloc (Obj.cells #[Value.int IntKind.i64 3, Value.int IntKind.i64 n, Value.string ⟨#[]⟩] 55))) (by rw [unhide HD, List.drop_eq_nil_of_le (by omega)]; rfl) (bstep (below_set3 hBW (Nat.le_refl _) _ _ _) (cell_below _ _)))
      clear hXW hBW HA HY HD HV HN d0
      go_wp2
      exact bodyPost_ret (v := .tuple #[.agg #[.int .i64 0, .int .i64 0, .string ⟨#[]⟩], .int .i64 (-1)]) (by simp [results, Tryd.results27, go_sem, *]) rfl (unhide HF)
  · have HF := hide (cellS_yes (w' := ((((W.setCell ⟨w.heap.size, 0, none⟩ (.int .i64 k)).setCell ⟨w.heap.size, 1, none⟩ (.int .i64 n)).setCell ⟨w.heap.size, 2, none⟩ (.string ⟨#[]⟩)).alloc (Obj.cells #[Value.int IntKind.i64 k, Value.int IntKind.i64 n, Value.string ⟨#[]⟩] 55))) (y := y) (p := p) (q := p + 4) (c := ⟨k, n, ByteArray.empty⟩) (by rw [unhide HD, unhide HV]; simp [rdC, h3]) (by omega) (by omega) (by simp) (bstep (below_set3 hBW (Nat.le_refl _) _ _ _) (cell_below _ _)))
    clear hXW hBW HA HY HD HV HN d0
    go_wp2
    exact bodyPost_ret (v := .tuple #[.agg #[.int .i64 k, .int .i64 n, .string ⟨#[]⟩], .int .i64 ((p + 4 : Nat) : Int)]) (by simp [results, Tryd.results27, go_sem, *]) rfl (unhide HF)
end Go.Proofs.YtonpahhcfgdeoaaDoor