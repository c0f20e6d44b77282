/- The specification: numbers and places out of bytes. -/
import Derived.Test.YtjinbinnjpjniaaDoorQZ3
import Derived.Deep.RegionHeld3
namespace Go.Proofs.YtjinbinnjpjniaaDoor
open Go.RowKit
set_option linter.unusedVariables false
set_option linter.unusedSimpArgs false

/-- Three bytes from a place on. -/
def numAt (y : List Int) (p : Nat) : Option Int := match y.drop p with
  | a :: b :: c :: _ => some (valN a b c)
  | _ => none
theorem numAt_no {y : List Int} {p : Nat} (h : y.length < p + 3) : numAt y p = none := by
  unfold numAt
  split
  · rename_i e
    have := congrArg List.length e
    simp at this
    omega
  · rfl
theorem numAt_yes {y : List Int} {p : Nat} (h : p + 3 ≤ y.length) : numAt y p = some (valN y[p] y[p + 1] y[p + 2]) := by
  unfold numAt
  rw [List.drop_eq_getElem_cons (by omega), List.drop_eq_getElem_cons (by omega), List.drop_eq_getElem_cons (by omega)]

set_option maxRecDepth 100000 in
set_option maxHeartbeats 4000000 in
theorem l6Num_no (ao : Option Addr) (cap : Nat) (y : List Int) (p : Nat) (w : World) (h : y.length < p + 3) (hp : p ≤ y.length + 2) (hl : y.length ≤ 1048576) :
    Calls Tryd.prog 44 #[.slice ao y.length cap, .int .i64 p] w fun e w' => e = .returned (.tuple #[.int .i64 0, .bool false]) ∧ w' = w := by
  go_enter Tryd.func44, Tryd.ntmps44
  go_wp2
  exact bodyPost_ret (v := .tuple #[.int .i64 0, .bool false]) (by simp [results, Tryd.results44, go_sem]) rfl ⟨rfl, rfl⟩
set_option maxRecDepth 100000 in
set_option maxHeartbeats 4000000 in
theorem l6Num_yes (b off cap : Nat) (y : List Int) (p : Nat) (w : World) (hA : AtY w b off y) (hy : ByL y) (h : p + 3 ≤ y.length) (hl : y.length ≤ 1048576) :
    Calls Tryd.prog 44 #[.slice (some ⟨b, off, none⟩) y.length cap, .int .i64 p] w fun e w' => e = .returned (.tuple #[.int .i64 (valN y[p] y[p + 1] y[p + 2]), .bool true]) ∧ ∃ n, w' = w.drewN n := by
  have d0 := hA p (by omega)
  have d1 := hA (p + 1) (by omega)
  have d2 := hA (p + 2) (by omega)
  have b0 := hy.get p (by omega)
  have b1 := hy.get (p + 1) (by omega)
  have b2 := hy.get (p + 2) (by omega)
  obtain ⟨a, ha⟩ : ∃ a, a = y[p] := ⟨_, rfl⟩
  obtain ⟨x, hx⟩ : ∃ x, x = y[p + 1] := ⟨_, rfl⟩
  obtain ⟨c, hc⟩ : ∃ c, c = y[p + 2] := ⟨_, rfl⟩
  rw [← ha] at d0 b0
  rw [← hx] at d1 b1
  rw [← hc] at d2 b2
  rw [← ha, ← hx, ← hc]
  clear ha hx hc hA hy
  go_enter Tryd.func44, Tryd.ntmps44
  go_wp2
  go_quiet (fail)
  go_wp2
  rw [show a * 65536 + x * 256 + c - 99999 - 1 = valN a x c by unfold valN; omega]
  exact bodyPost_ret (v := .tuple #[.int .i64 (valN a x c), .bool true]) (by simp [results, Tryd.results44, go_sem]) rfl ⟨rfl, _, rfl⟩

theorem belowDrewN (w : World) (n : Nat) : Below w.heap.size w (w.drewN n) := by
  have h := Below.refl w.heap.size w
  exact ⟨h.os, h.tape, h.output, h.size, h.block⟩

/-- What the reading of a place comes to. -/
def CellS (w : World) (y : List Int) (p : Nat) (e : Ending) (w' : World) : Prop :=
  ∃ (c : C) (q : Int), e = .returned (.tuple #[.agg #[.int .i64 c.k, .int .i64 c.n, .string c.s], .int .i64 q]) ∧
    ((q = -1 ∧ rdC (y.drop p) = none) ∨ ∃ q' : Nat, q = q' ∧ p ≤ q' ∧ q' ≤ y.length ∧ c.s.size ≤ 255 ∧ rdC (y.drop p) = some (c, y.drop q')) ∧ Below w.heap.size w w'
theorem cellS_no {w w' : World} {y : List Int} {p : Nat} (h : rdC (y.drop p) = none) (hB : Below w.heap.size w w') : CellS w y p (.returned (.tuple #[.agg #[.int .i64 0, .int .i64 0, .string ByteArray.empty], .int .i64 (-1)])) w' :=
  ⟨⟨0, 0, ByteArray.empty⟩, -1, rfl, .inl ⟨rfl, h⟩, hB⟩
theorem cellS_yes {w w' : World} {y : List Int} {p q : Nat} {c : C} (h : rdC (y.drop p) = some (c, y.drop q)) (h1 : p ≤ q) (h2 : q ≤ y.length) (h3 : c.s.size ≤ 255) (hB : Below w.heap.size w w') : CellS w y p (.returned (.tuple #[.agg #[.int .i64 c.k, .int .i64 c.n, .string c.s], .int .i64 q])) w' :=
  ⟨c, q, rfl, .inr ⟨q, rfl, h1, h2, h3, h⟩, hB⟩

theorem below_set3 {w W : World} (h : Below w.heap.size w W) {k : Nat} (hk : w.heap.size ≤ k) (a b c : Value) : Below w.heap.size w (((W.setCell ⟨k, 0, none⟩ a).setCell ⟨k, 1, none⟩ b).setCell ⟨k, 2, none⟩ c) :=
  ((h.setCell (p := ⟨k, 0, none⟩) hk _).setCell (p := ⟨k, 1, none⟩) hk _).setCell (p := ⟨k, 2, none⟩) hk _
theorem drop4 {y : List Int} {p : Nat} (h : p + 4 ≤ y.length) : y.drop p = y[p] :: y[p + 1] :: y[p + 1 + 1] :: y[p + 1 + 2] :: y.drop (p + 4) := by
  rw [List.drop_eq_getElem_cons (by omega), List.drop_eq_getElem_cons (by omega), List.drop_eq_getElem_cons (by omega), List.drop_eq_getElem_cons (by omega)]

set_option maxRecDepth 100000 in
set_option maxHeartbeats 4000000 in
theorem l6Cell_short (ao : Option Addr) (cap : Nat) (y : List Int) (p : Nat) (w : World) (h : y.length < p + 4) (hp : p ≤ y.length) (hl : y.length ≤ 1048576) :
    Calls Tryd.prog 62 #[.slice ao y.length cap, .int .i64 p] w (CellS w y p) := by
  have HN := hide (fun W : World => l6Num_no ao cap y (p + 1) W (by omega) (by omega) hl)
  have HR := hide (rdC_short (Y := y.drop p) (by simp; omega))
  go_enter Tryd.func62, Tryd.ntmps62
  go_wp2_with fail
  rw [show ((p : Int) + 1) = ((p + 1 : Nat) : Int) by omega]
  refine (unhide HN _).mono ?_
  rintro e w1 ⟨rfl, rfl⟩
  go_wp2
  exact bodyPost_ret (v := .tuple #[.agg #[.int .i64 0, .int .i64 0, .string ByteArray.empty], .int .i64 (-1)]) (by simp [results, Tryd.results62, go_sem]; rfl) rfl (cellS_no (unhide HR) (cell_below _ _))

theorem six_c {w : World} {B : Nat} {a0 a1 a2 : Value} {T : TypeId} (h : w.heap[B]? = some (.cells #[a0, a1, a2] T (0, 0))) :
    (w.cell? ⟨B, 0, none⟩ = some a0 ∧ w.cell? ⟨B, 1, none⟩ = some a1 ∧ w.cell? ⟨B, 2, none⟩ = some a2) ∧ w.frozen? ⟨B, 0, none⟩ = false ∧ w.frozen? ⟨B, 1, none⟩ = false ∧ w.frozen? ⟨B, 2, none⟩ = false := by
  refine ⟨⟨?_, ?_, ?_⟩, ?_, ?_, ?_⟩ <;> (simp only [World.cell?, World.frozen?]; rw [h]; rfl)

set_option maxRecDepth 100000 in
set_option maxHeartbeats 4000000 in
theorem l6Cell_long (b off cap : Nat) (y : List Int) (p : Nat) (w : World) (hA : AtY w b off y) (hy : ByL y) (h : p + 4 ≤ y.length) (hl : y.length ≤ 1048576) (hc : y.length ≤ cap) :
    Calls Tryd.prog 62 #[.slice (some ⟨b, off, none⟩) y.length cap, .int .i64 p] w (CellS w y p) := by
  have hbl : b < w.heap.size := hA.lt (by omega)
  have HN := hide (fun (W : World) (hB : Below w.heap.size w W) => l6Num_yes b off cap y (p + 1) W (hA.below hB) hy (by omega) hl)
  have HA := hide hA
  have HY := hide hy
  have HD := hide (drop4 h)
  have d0 := hA p (by omega)
  have b0 := hy.get p (by omega)
  obtain ⟨k, hk⟩ : ∃ k, k = y[p] := ⟨_, rfl⟩
  rw [← hk] at d0 b0 HD
  obtain ⟨x1, hx1⟩ : ∃ x1, x1 = y[p + 1] := ⟨_, rfl⟩
  obtain ⟨x2, hx2⟩ : ∃ x2, x2 = y[p + 1 + 1] := ⟨_, rfl⟩
  obtain ⟨x3, hx3⟩ : ∃ x3, x3 = y[p + 1 + 2] := ⟨_, rfl⟩
  rw [← hx1, ← hx2, ← hx3] at HN HD
  obtain ⟨n, hn⟩ : ∃ n, n = valN x1 x2 x3 := ⟨_, rfl⟩
  rw [← hn] at HN
  have HV := hide hn
  clear hk hx1 hx2 hx3 hn hA hy
  go_enter Tryd.func62, Tryd.ntmps62
  go_wp2_with fail
  rw [show ((p : Int) + 1) = ((p + 1 : Nat) : Int) by omega]
  refine (unhide HN _ (cell_below _ _)).mono ?_
  rintro e w1 ⟨rfl, nq, rfl⟩
  obtain ⟨W, hW⟩ : ∃ W, W = (w.alloc (Obj.cells #[Value.int IntKind.i64 0, Value.int IntKind.i64 0, Value.string ⟨#[]⟩] 59)).drewN nq := ⟨_, rfl⟩
  have hBW : Below w.heap.size w W := by rw [hW]; exact bstep (cell_below w _) (belowDrewN _ _)
  have hXW : W.heap[w.heap.size]? = some (.cells #[.int .i64 0, .int .i64 0, .string ⟨#[]⟩] 59 (0, 0)) := by rw [hW]; exact heap_alloc_new w _
  have hsz : W.heap.size = w.heap.size + 1 := by rw [hW]; simp [World.drewN]
  have dW := (hBW.cell (p := ⟨b, off + p, none⟩) hbl).trans d0
  rw [← hW]
  clear hW
  obtain ⟨⟨a0, a1, a2⟩, a3, a4, a5⟩ := six_c hXW
  have hAW : w.heap.size < W.heap.size := by omega
  by_cases h3 : k = 3
  · subst h3
    by_cases h5 : p + 5 ≤ y.length
    · have d4 := (hBW.cell (p := ⟨b, off + (p + 4), none⟩) hbl).trans ((unhide HA) (p + 4) (by omega))
      have b4 := (unhide HY).get (p + 4) (by omega)
      have HE := hide (show y.drop (p + 4) = y[p + 4] :: y.drop (p + 5) from List.drop_eq_getElem_cons (by omega))
      obtain ⟨m, hm⟩ : ∃ m, m = y[p + 4] := ⟨_, rfl⟩
      rw [← hm] at d4 b4 HE
      clear hm
      obtain ⟨m, rfl⟩ := Int.eq_ofNat_of_zero_le b4.1
      by_cases h6 : p + 5 + m ≤ y.length
      · have HF : Hid (rdC (y.drop p) = some (⟨3, n, strOf ((y.drop (p + 5)).take m)⟩, y.drop (p + 5 + m))) := by
          show _ = _
          rw [unhide HD, unhide HE, unhide HV]
          simp only [rdC, if_true]
          rw [if_pos (by simp; omega)]
          simp
        have hsl : (strOf ((y.drop (p + 5)).take m)).size ≤ 255 := by rw [strOf_size]; simp; omega
        have hlm : ((y.drop (p + 5)).take m).length = m := by simp; omega
        have hrow := (((unhide HA).below (bstep hBW (cell_below W (Obj.cells #[Value.int IntKind.i64 3, Value.int IntKind.i64 n, Value.string ⟨#[]⟩] 59)))).drop (p + 5)).take m
        obtain ⟨z, hz⟩ : ∃ z, z = (y.drop (p + 5)).take m := ⟨_, rfl⟩
        rw [← hz] at hsl hlm hrow HF
        obtain ⟨s, hs⟩ : ∃ s, s = strOf z := ⟨_, rfl⟩
        have hcA := conv_str (W.alloc (Obj.cells #[Value.int IntKind.i64 3, Value.int IntKind.i64 n, Value.string ⟨#[]⟩] 59)) (some ⟨b, off + (p + 5), none⟩) (cap - (p + 5)) z (.of_at hrow)
        have hcB : m = 0 → _ := fun h0 : m = 0 => conv_str (W.alloc (Obj.cells #[Value.int IntKind.i64 3, Value.int IntKind.i64 n, Value.string ⟨#[]⟩] 59)) (some ⟨b, off, none⟩) 0 z (.inl (List.length_eq_zero_iff.1 (hlm.trans h0)))
        rw [hlm, ← hs] at hcA
        rw [hlm, ← hs] at hcB
        rw [← hs] at hsl HF
        have HG := hide (cellS_yes (w' := ((((W.setCell ⟨w.heap.size, 0, none⟩ (.int .i64 3)).setCell ⟨w.heap.size, 1, none⟩ (.int .i64 n)).setCell ⟨w.heap.size, 2, none⟩ (.string s)).alloc (Obj.cells #[Value.int IntKind.i64 3, Value.int IntKind.i64 n, Value.string s] 59))) (unhide HF) (by omega) h6 hsl (bstep (below_set3 hBW (Nat.le_refl _) _ _ _) (cell_below _ _)))
        clear hXW HA HY HD HV HN d0 HE hz hs hlm hrow HF hBW hsl
        by_cases hcap : cap = p + 5
        · subst hcap
          replace hcB := hcB (by omega)
          clear hcA
          go_wp2
          exact bodyPost_ret (v := .tuple #[.agg #[.int .i64 3, .int .i64 n, .string s], .int .i64 ((p + 5 + m : Nat) : Int)]) (by simp [results, Tryd.results62, go_sem, *]) rfl (unhide HG)
        · clear hcB
          go_wp2
          exact bodyPost_ret (v := .tuple #[.agg #[.int .i64 3, .int .i64 n, .string s], .int .i64 ((p + 5 + m : Nat) : Int)]) (by simp [results, Tryd.results62, go_sem, *]) rfl (unhide HG)
      · have HF := hide (cellS_no (y := y) (p := p) (w' := ((((W.setCell ⟨w.heap.size, 0, none⟩ (.int .i64 0)).setCell ⟨w.heap.size, 1, none⟩ (.int .i64 0)).setCell ⟨w.heap.size, 2, none⟩ (.string ⟨#[]⟩)).alloc (Obj.cells #[Value.int IntKind.i64 3, Value.int IntKind.i64 n, Value.string ⟨#[]⟩] 59))) (by rw [unhide HD, unhide HE]; simp only [rdC, if_true]; rw [if_neg (by simp; omega)]) (bstep (below_set3 hBW (Nat.le_refl _) _ _ _) (cell_below _ _)))
        clear hXW hBW HA HY HD HV HN d0 HE
        go_wp2
        exact bodyPost_ret (v := .tuple #[.agg #[.int .i64 0, .int .i64 0, .string ⟨#[]⟩], .int .i64 (-1)]) (by simp [results, Tryd.results62, go_sem, *]) rfl (unhide HF)
    · have HF := hide (cellS_no (y := y) (p := p) (w' := ((((W.setCell ⟨w.heap.size, 0, none⟩ (.int .i64 0)).setCell ⟨w.heap.size, 1, none⟩ (.int .i64 0)).setCell ⟨w.heap.size, 2, none⟩ (.string ⟨#[]⟩)).alloc (Obj.cells #[Value.int IntKind.i64 3, Value.int IntKind.i64 n, Value.string ⟨#[]⟩] 59))) (by rw [unhide HD, List.drop_eq_nil_of_le (by omega)]; rfl) (bstep (below_set3 hBW (Nat.le_refl _) _ _ _) (cell_below _ _)))
      clear hXW hBW HA HY HD HV HN d0
      go_wp2
      exact bodyPost_ret (v := .tuple #[.agg #[.int .i64 0, .int .i64 0, .string ⟨#[]⟩], .int .i64 (-1)]) (by simp [results, Tryd.results62, go_sem, *]) rfl (unhide HF)
  · have HF := hide (cellS_yes (w' := ((((W.setCell ⟨w.heap.size, 0, none⟩ (.int .i64 k)).setCell ⟨w.heap.size, 1, none⟩ (.int .i64 n)).setCell ⟨w.heap.size, 2, none⟩ (.string ⟨#[]⟩)).alloc (Obj.cells #[Value.int IntKind.i64 k, Value.int IntKind.i64 n, Value.string ⟨#[]⟩] 59))) (y := y) (p := p) (q := p + 4) (c := ⟨k, n, ByteArray.empty⟩) (by rw [unhide HD, unhide HV]; simp [rdC, h3]) (by omega) (by omega) (by simp) (bstep (below_set3 hBW (Nat.le_refl _) _ _ _) (cell_below _ _)))
    clear hXW hBW HA HY HD HV HN d0
    go_wp2
    exact bodyPost_ret (v := .tuple #[.agg #[.int .i64 k, .int .i64 n, .string ⟨#[]⟩], .int .i64 ((p + 4 : Nat) : Int)]) (by simp [results, Tryd.results62, go_sem, *]) rfl (unhide HF)
end Go.Proofs.YtjinbinnjpjniaaDoor