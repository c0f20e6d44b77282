/- Bytes that are drawn; the walk of FnMsgSum. -/
import Derived.Test.YtjinbinnjpjniaaDoorQYT1
namespace Go.Proofs.YtjinbinnjpjniaaDoor
open Go.RowKit
set_option linter.unusedVariables false
set_option linter.unusedSimpArgs false
attribute [-go_sem] Go.Builtin.append_

/-- Another byte makes another sum. -/
theorem fold_apart : ∀ (z : List Int) (s r : Int), 0 ≤ s ∧ s ≤ 65520 → 0 ≤ r ∧ r ≤ 65520 → s ≠ r → z.foldl (fun s x => (s * 257 + x) % 65521) s ≠ z.foldl (fun s x => (s * 257 + x) % 65521) r
  | [], s, r, _, _, h => h
  | x :: z, s, r, hs, hr, h => by
      rw [List.foldl_cons, List.foldl_cons]
      have p1 := Int.emod_nonneg (s * 257 + x) (show (65521 : Int) ≠ 0 by omega)
      have p2 := Int.emod_lt_of_pos (s * 257 + x) (show (0 : Int) < 65521 by omega)
      have p3 := Int.emod_nonneg (r * 257 + x) (show (65521 : Int) ≠ 0 by omega)
      have p4 := Int.emod_lt_of_pos (r * 257 + x) (show (0 : Int) < 65521 by omega)
      exact fold_apart z _ _ ⟨p1, by omega⟩ ⟨p3, by omega⟩ (by omega)
theorem sumL_mid (a c : List Int) (x : Int) : sumL (a ++ x :: c) = c.foldl (fun s x => (s * 257 + x) % 65521) ((sumL a * 257 + x) % 65521) := by
  simp [sumL, List.foldl_append]
theorem sumL_apart {z : List Int} {k : Nat} {b : Int} (hk : k < z.length) (hz : 0 ≤ z[k] ∧ z[k] ≤ 255) (hb : 0 ≤ b ∧ b ≤ 255) (h : b ≠ z[k]) : sumL (z.set k b) ≠ sumL z := by
  have e1 : z.set k b = z.take k ++ b :: z.drop (k + 1) := by rw [List.set_eq_take_append_cons_drop, if_pos hk]
  have e2 : sumL z = sumL (z.take k ++ z[k] :: z.drop (k + 1)) := by rw [← List.drop_eq_getElem_cons hk, List.take_append_drop]
  have hs := sumL_in (z.take k)
  rw [e1, e2, sumL_mid, sumL_mid]
  generalize z[k] = x at hz h
  generalize sumL (z.take k) = s at hs
  have p1 := Int.emod_nonneg (s * 257 + x) (show (65521 : Int) ≠ 0 by omega)
  have p2 := Int.emod_lt_of_pos (s * 257 + x) (show (0 : Int) < 65521 by omega)
  have p3 := Int.emod_nonneg (s * 257 + b) (show (65521 : Int) ≠ 0 by omega)
  have p4 := Int.emod_lt_of_pos (s * 257 + b) (show (0 : Int) < 65521 by omega)
  exact fold_apart _ _ _ ⟨p3, by omega⟩ ⟨p1, by omega⟩ (by omega)

theorem xor_u8_ne {y d : Int} (hy : 0 ≤ y ∧ y ≤ 255) (hd : 1 ≤ d ∧ d ≤ 255) : bits .xor .u8 y d ≠ y := by
  obtain ⟨a, rfl⟩ := Int.eq_ofNat_of_zero_le hy.1
  obtain ⟨b, rfl⟩ := Int.eq_ofNat_of_zero_le (show 0 ≤ d by omega)
  have ha : a < 2 ^ 8 := by omega
  have hb : b < 2 ^ 8 := by omega
  have hx : a ^^^ b < 2 ^ 8 := Nat.xor_lt_two_pow ha hb
  have h1 : (BitVec.ofInt 8 (a : Int)).toNat = a := by
    rw [BitVec.ofInt_natCast, BitVec.toNat_ofNat]; exact Nat.mod_eq_of_lt ha
  have h2 : (BitVec.ofInt 8 (b : Int)).toNat = b := by
    rw [BitVec.ofInt_natCast, BitVec.toNat_ofNat]; exact Nat.mod_eq_of_lt hb
  have e : bits .xor .u8 (a : Int) (b : Int) = ((a ^^^ b : Nat) : Int) := by
    show IntKind.u8.wrap ((BitVec.ofInt 8 (a : Int) ^^^ BitVec.ofInt 8 (b : Int)).toNat : Int) = _
    rw [BitVec.toNat_xor, h1, h2, IntKind.wrap_u8]
    omega
  rw [e]
  intro h
  have h' : a ^^^ b = a := by omega
  have : a ^^^ (a ^^^ b) = 0 := by rw [h', Nat.xor_self]
  rw [← Nat.xor_assoc, Nat.xor_self, Nat.zero_xor] at this
  omega

set_option maxRecDepth 100000 in
set_option maxHeartbeats 1000000 in
theorem turn_none (R p cap : Nat) (ao : Option Addr) (w : World) (hp : p ≤ 999990000) (h : Rd w R p) :
    Calls Tryd.prog 31 #[.pointer (some ⟨R, 0, none⟩), .slice ao 0 cap] w (Turned w R p 601) := by
  have hR := h.lt
  go_enter Tryd.func31, Tryd.ntmps31
  go_wp2_with fail
  refine (pick_any R p 256 _ (by omega) (by omega) (by omega) h).mono ?_
  rintro e w1 ⟨x, rfl, hx0, hx1, hR1, hG1⟩
  have hO := own_new w1 w.heap.size [x] #[.int .u8 x] rfl 1 rfl hG1.size (by simp)
  have HF := hide (turned_mk (n := 601) (p := p) hO (ByL.one ⟨hx0, by omega⟩) (by simp) (hR1.alloc _) (by omega) (grown_trans hG1 (grown_alloc _ _ _)))
  clear hO hR1 hG1 h
  go_wp2
  go_ret
  exact unhide HF

theorem turn_any (R p cap : Nat) (ao : Option Addr) (z : List Int) (base : Nat) (w : World) (hO : OwnY w base (.slice ao z.length cap) z) (hRb : R < base) (hy : ByL z) (hz : z.length ≤ 600) (hp : p ≤ 999990000) (h : Rd w R p) :
    Calls Tryd.prog 31 #[.pointer (some ⟨R, 0, none⟩), .slice ao z.length cap] w (Turned w R p 601) := by
  by_cases h0 : 0 < z.length
  · obtain ⟨g, c, e, hb, hg, hA, h1, h2⟩ := hO.some h0
    simp only [Value.slice.injEq] at e
    obtain ⟨rfl, _, rfl⟩ := e
    exact turn_some R p g cap z w hA hy h0 hz h1 h2 (by omega) hp h
  · have e : z = [] := List.length_eq_zero_iff.1 (by omega)
    subst e
    exact turn_none R p cap ao w hp h

/-- Bytes that are drawn. -/
def DrewY (w : World) (e : Ending) (w' : World) : Prop := ∃ v y, e = .returned v ∧ OwnY w' w.heap.size v y ∧ ByL y ∧ y.length ≤ 601 ∧ Below w.heap.size w w'

set_option maxRecDepth 100000 in
set_option maxHeartbeats 2000000 in
theorem drawTrmTake_any (ao : Option Addr) (len cap : Nat) (z : Nat → Int) (w : World) (h : Bin w ao len cap z) :
    Calls Tryd.prog 7 #[.slice ao len cap] w (DrewY w) := by
  go_enter Tryd.func7, Tryd.ntmps7
  go_wp2_with fail
  refine (open_any ao len cap z _ h).mono ?_
  rintro e w1 ⟨rfl, hR1, hb1⟩
  have hl1 := hR1.lt
  go_wp2_with fail
  refine (termOr_any w.heap.size 0 99999 _ (by omega) (by omega) (by omega) hR1).mono ?_
  rintro e w2 ⟨v2, t, p2, rfl, hO2, _, ht, hD, hR2, hp2, hG2⟩
  obtain ⟨hFit, hWf⟩ := dc_fit hD
  have hb2 : Below w.heap.size w w2 := hb1.grown hG2 (by omega) (fun k e => by cases e; exact Nat.le_refl _)
  obtain ⟨a2, c2, rfl, hRow2⟩ := hO2.shape
  clear hD hWf hG2 hR1 h hb1
  go_wp2_with fail
  refine (specTrmBytes_any a2 c2 t w2 (by unfold maxLen; omega) hRow2 hFit).mono ?_
  rintro e w3 ⟨v3, rfl, hO3, hb3⟩
  have hB3 := bstep hb2 hb3
  have hR3 := hR2.below hb3
  have hl2 := hR2.lt
  have hel := encT_length t
  have hey := encT_by t
  obtain ⟨y, hy⟩ : ∃ y, y = encT t := ⟨_, rfl⟩
  rw [← hy] at hO3 hel hey
  clear hy hO2 hRow2 hFit hb2 hR2
  go_wp2_with fail
  refine (pick_any w.heap.size p2 2 _ (by omega) (by omega) (by omega) hR3).mono ?_
  rintro e w4 ⟨r, rfl, hr0, hr1, hR4, hG4⟩
  have hB4 : Below w.heap.size w w4 := hB3.grown hG4 hB3.size (fun k e => by cases e; exact Nat.le_refl _)
  have hO4 : OwnY w4 w2.heap.size v3 y := own_apart hO3 hG4 (fun k e => by cases e; exact .inl hl2)
  obtain ⟨a3, c3, rfl, _⟩ := hO4.shape
  have hw2 : w.heap.size ≤ w2.heap.size := by omega
  clear hO3 hb3 hB3 hR3 hG4
  by_cases h0 : r = 0
  · subst h0
    have HT := hide (turn_any w.heap.size (p2 + 1) c3 a3 y w2.heap.size w4 hO4 hl2 hey (by omega) (by omega) hR4)
    clear hO4
    go_wp2_with fail
    refine (unhide HT).mono ?_
    rintro e w5 ⟨v5, y5, p5, rfl, hO5, hy5, hl5, _, _, hG5⟩
    have HF : Hid (DrewY w (.returned v5) w5) := ⟨v5, y5, rfl, own_lo hO5 (fun j e => Nat.le_trans hB4.size (World.ownsRow.lt hO5 j e).1), hy5, hl5, hB4.grown hG5 hB4.size (fun k e => by cases e; exact Nat.le_refl _)⟩
    clear hO5 hy5 hG5
    go_wp2
    go_ret
    exact unhide HF
  · have hb : (r == 0) = false := by simpa using h0
    have HF : Hid (DrewY w (.returned (.slice a3 y.length c3)) w4) := ⟨_, y, rfl, own_lo hO4 (fun j e => Nat.le_trans hw2 (World.ownsRow.lt hO4 j e).1), hey, by omega, hB4⟩
    clear hO4 h0
    go_wp2
    go_ret
    exact unhide HF

end Go.Proofs.YtjinbinnjpjniaaDoor
