import Derived.Test.YtonpahhcfgdeoaaDoorQW13SB1Plain2YB3Z0
import Derived.Test.YtonpahhcfgdeoaaDoorQYS1YX1YB4W6W14YB5YT0
import Derived.Deep.QuietTactic
import Derived.BigQuiet
import Derived.Laws.BitsLemmas
import Derived.Laws.BytesString
import Derived.Deep.WholeRow
/- The reader of bytes: fail, left. -/
namespace Go.Proofs.YtonpahhcfgdeoaaDoor
open Go.RowKit
set_option linter.unusedVariables false
set_option linter.unusedSimpArgs false

theorem grown_setC (W : World) (a : Addr) (v : Value) : W.grownBy (W.setCell a v) (some a.block) :=
  ⟨rfl, rfl, rfl, (KeepsWalks.setCell W _ v).size, fun k _ hk => Below.heap_setCell _ _ _ k (fun e => hk (by rw [e]))⟩
/-- An error, or none. -/
def isE (er : Bool) (ev : Value) : Prop := if er then ∃ T u, ev = .iface T u else ev = .nilIface
/-- A reader at R: the bytes, its place, whether it has an error. -/
def Rdr (w : World) (R : Nat) (ao : Option Addr) (cap : Nat) (y : List Int) (p : Nat) (er : Bool) : Prop :=
  ∃ ev, w.heap[R]? = some (.cells #[.slice ao y.length cap, .int .i64 p, ev] 47 (0, 0)) ∧ isE er ev
theorem three_rdr {w : World} {B : Nat} {a0 a1 a2 : Value} {T : TypeId} (h : w.heap[B]? = some (.cells #[a0, a1, a2] T (0, 0))) :
    w.cell? ⟨B, 0, none⟩ = some a0 ∧ w.cell? ⟨B, 1, none⟩ = some a1 ∧ w.cell? ⟨B, 2, none⟩ = some a2 ∧ w.frozen? ⟨B, 1, none⟩ = false ∧ w.frozen? ⟨B, 2, none⟩ = false := by
  refine ⟨?_, ?_, ?_, ?_, ?_⟩ <;> (simp only [World.cell?, World.frozen?]; rw [h]; rfl)
theorem Rdr.lt {w : World} {R : Nat} {ao : Option Addr} {cap : Nat} {y : List Int} {p : Nat} {er : Bool} (h : Rdr w R ao cap y p er) : R < w.heap.size := by
  obtain ⟨ev, h, _⟩ := h
  exact (Array.getElem?_eq_some_iff.1 h).1
theorem Rdr.below {w w' : World} {R : Nat} {ao : Option Addr} {cap : Nat} {y : List Int} {p : Nat} {er : Bool} (h : Rdr w R ao cap y p er) (hb : Below w.heap.size w w') : Rdr w' R ao cap y p er := by
  have hl := h.lt
  obtain ⟨ev, h, he⟩ := h
  exact ⟨ev, (hb.block R hl).trans h, he⟩
/-- The package's errors are there. -/
def Gl (w : World) : Prop := ∀ g, g = 4 ∨ g = 2 ∨ g = 3 → ∃ T u, w.cell? ⟨g, 0, none⟩ = some (.iface T u)
theorem Gl.grown {w w' : World} {r : Option Nat} (h : Gl w) (hg : w.grownBy w' r) (hr : ∀ k, r = some k → 4 < k) : Gl w' := fun g hgl => by
  obtain ⟨T, u, hc⟩ := h g hgl
  refine ⟨T, u, (World.cell?_of_block (a := ⟨g, 0, none⟩) (hg.block g (World.block_lt_of_cell? w _ hc) (fun e => ?_))).trans hc⟩
  have := hr g e.symm
  omega

set_option maxRecDepth 100000 in
set_option maxHeartbeats 1000000 in
theorem fail_any (R : Nat) (ao : Option Addr) (cap : Nat) (y : List Int) (p : Nat) (er : Bool) (T : TypeId) (u : Value) (w : World) (h : Rdr w R ao cap y p er) :
    Calls Tryd.prog 34 #[.pointer (some ⟨R, 0, none⟩), .iface T u] w fun e w' => (∃ v, e = .returned v) ∧ Rdr w' R ao cap y p true ∧ w.grownBy w' (some R) := by
  obtain ⟨ev, hb, he⟩ := h
  obtain ⟨c0, c1, c2, f1, f2⟩ := three_rdr hb
  cases er with
  | true =>
    obtain ⟨T', u', rfl⟩ := he
    have HF : Hid (Rdr w R ao cap y p true) := ⟨_, hb, _, _, rfl⟩
    clear hb
    go_enter Tryd.func34, Tryd.ntmps34
    go_wp2
    exact bodyPost_end (results_none rfl _ _ _) rfl ⟨⟨_, rfl⟩, unhide HF, grown_refl _ _⟩
  | false =>
    have he' : ev = .nilIface := he
    subst he'
    have HF : Hid (Rdr (w.setCell ⟨R, 2, none⟩ (.iface T u)) R ao cap y p true) := ⟨.iface T u, heap_setCell_same w R 2 _ _ _ hb, _, _, rfl⟩
    clear hb he
    go_enter Tryd.func34, Tryd.ntmps34
    go_wp2
    exact bodyPost_end (results_none rfl _ _ _) rfl ⟨⟨_, rfl⟩, unhide HF, grown_setC w ⟨R, 2, none⟩ _⟩

set_option maxRecDepth 100000 in
set_option maxHeartbeats 1000000 in
theorem left_any (R : Nat) (ao : Option Addr) (cap : Nat) (y : List Int) (p : Nat) (er : Bool) (w : World) (h : Rdr w R ao cap y p er) (hp : p ≤ y.length) (hl : y.length ≤ 1048576) :
    Calls Tryd.prog 33 #[.pointer (some ⟨R, 0, none⟩)] w fun e w' => e = .returned (.int .i64 ((y.length : Int) - p)) ∧ ∃ n, w' = w.drewN n := by
  obtain ⟨ev, hb, he⟩ := h
  obtain ⟨c0, c1, c2, f1, f2⟩ := three_rdr hb
  clear hb he
  go_enter Tryd.func33, Tryd.ntmps33
  go_wp2
  go_quiet (fail)
  go_wp2
  go_ret
  exact ⟨rfl, _, rfl⟩

theorem Rdr.drewN {w : World} {R : Nat} {ao : Option Addr} {cap : Nat} {y : List Int} {p : Nat} {er : Bool} (h : Rdr w R ao cap y p er) (n : Nat) : Rdr (w.drewN n) R ao cap y p er := h

theorem grown_drewN {w w' : World} {n : Nat} {r : Option Nat} (h : (w.drewN n).grownBy w' r) : w.grownBy w' r := ⟨h.os, h.tape, h.output, h.size, h.block⟩

theorem grown_drewN' {w w' : World} {n : Nat} {r : Option Nat} (h : w.grownBy w' r) : w.grownBy (w'.drewN n) r := ⟨h.os, h.tape, h.output, h.size, h.block⟩

/-- Bytes taken: whether that fails, and what they are. -/
def tkE (er : Bool) (y : List Int) (p n : Nat) : Bool := er || decide (y.length < p + n)
def tkZ (er : Bool) (y : List Int) (p n : Nat) : List Int := if tkE er y p n then [] else (y.drop p).take n
def Took (w : World) (R : Nat) (ao : Option Addr) (cap : Nat) (y : List Int) (p : Nat) (er : Bool) (n : Nat) (e : Ending) (w' : World) : Prop :=
  ∃ ao' cap', e = .returned (.slice ao' (tkZ er y p n).length cap') ∧ RowY w' ao' (tkZ er y p n) ∧ Rdr w' R ao cap y (p + (tkZ er y p n).length) (tkE er y p n) ∧ w.grownBy w' (some R)
theorem took_no {w w' : World} {R : Nat} {ao : Option Addr} {cap : Nat} {y : List Int} {p : Nat} {er : Bool} {n : Nat} (he : tkE er y p n = true) (h : Rdr w' R ao cap y p true) (hg : w.grownBy w' (some R)) : Took w R ao cap y p er n (.returned (.slice none 0 0)) w' := by
  have ez : tkZ er y p n = [] := by simp [tkZ, he]
  refine ⟨none, 0, by rw [ez]; rfl, by rw [ez]; exact .inl rfl, by rw [ez, he]; exact h, hg⟩
theorem took_yes {w w' : World} {R : Nat} {b off cap cap' : Nat} {y : List Int} {p n : Nat} (hn : p + n ≤ y.length) (h : Rdr w' R (some ⟨b, off, none⟩) cap y (p + n) false) (hA : AtY w' b off y) (hg : w.grownBy w' (some R)) (ao' : Option Addr) (ha : 0 < n → ao' = some ⟨b, off + p, none⟩) : Took w R (some ⟨b, off, none⟩) cap y p false n (.returned (.slice ao' n cap')) w' := by
  have he : tkE false y p n = false := by simp [tkE]; omega
  have ez : tkZ false y p n = (y.drop p).take n := by simp [tkZ, he]
  have el : (tkZ false y p n).length = n := by rw [ez]; simp; omega
  refine ⟨ao', cap', by rw [el], ?_, by rw [el, he]; exact h, hg⟩
  rw [ez]
  by_cases h0 : n = 0
  · subst h0; exact .inl (by simp)
  · rw [ha (by omega)]
    exact .of_at ((hA.drop p).take n)

set_option maxRecDepth 100000 in
set_option maxHeartbeats 2000000 in
theorem take_any (ao : Option Addr) (R b off cap : Nat) (y : List Int) (p : Nat) (er : Bool) (n : Nat) (w : World) (h : Rdr w R ao cap y p er) (hao : y = [] ∨ ao = some ⟨b, off, none⟩) (h0 : er = true ∨ 0 < n ∨ y ≠ []) (hA : AtY w b off y) (hbR : b ≠ R) (hG : Gl w) (hp : p ≤ y.length) (hl : y.length ≤ 1048576) (hn : n ≤ 1000) (hc : y.length ≤ cap) :
    Calls Tryd.prog 52 #[.pointer (some ⟨R, 0, none⟩), .int .i64 n] w (Took w R ao cap y p er n) := by
  have HL := hide (left_any R _ cap y p er w h hp hl)
  have HR := hide h
  have HAO := hide (And.intro hao h0)
  clear hao h0
  obtain ⟨T0, u0, g0⟩ := hG 4 (.inl rfl)
  by_cases hlt : p + n ≤ y.length
  · cases er with
    | true =>
      go_enter Tryd.func52, Tryd.ntmps52
      go_wp2_with fail
      refine (unhide HL).mono ?_
      rintro e w1 ⟨rfl, nq, rfl⟩
      obtain ⟨ev, hb, T', u', rfl⟩ := (unhide HR).drewN nq
      obtain ⟨c0, c1, c2, f1, f2⟩ := three_rdr hb
      go_wp2
      go_ret
      exact took_no rfl (unhide HR) (grown_drewN (grown_refl _ _))
    | false =>
      obtain ⟨hao, h0⟩ := unhide HAO
      have hao' : ao = some ⟨b, off, none⟩ := by
        rcases hao with e | e
        · exfalso
          subst e
          simp at hlt
          rcases h0 with h0 | h0 | h0
          · cases h0
          · omega
          · exact h0 rfl
        · exact e
      subst hao'
      clear hao h0 HAO
      go_enter Tryd.func52, Tryd.ntmps52
      go_wp2_with fail
      refine (unhide HL).mono ?_
      rintro e w1 ⟨rfl, nq, rfl⟩
      obtain ⟨ev, hb, he⟩ := (unhide HR).drewN nq
      have he' : ev = .nilIface := he
      subst he'
      obtain ⟨c0, c1, c2, f1, f2⟩ := three_rdr hb
      obtain ⟨W, hW⟩ : ∃ W, W = w.drewN nq := ⟨_, rfl⟩
      have HW := hide (show w.grownBy W (some R) ∧ AtY W b off y from by rw [hW]; exact ⟨grown_drewN (grown_refl _ _), hA⟩)
      rw [← hW] at hb c0 c1 c2 f1 f2 ⊢
      clear hW
      have HF : Hid (Rdr (W.setCell ⟨R, 1, none⟩ (.int .i64 ((p : Int) + n))) R (some ⟨b, off, none⟩) cap y (p + n) false) := ⟨.nilIface, heap_setCell_same W R 1 _ _ _ hb, rfl⟩
      have HG2 := hide (grown_trans (unhide HW).1 (grown_setC W ⟨R, 1, none⟩ (.int .i64 ((p : Int) + n))))
      have HA2 := hide (atY_grown (unhide HW).2 (grown_setC W ⟨R, 1, none⟩ (.int .i64 ((p : Int) + n))) (fun k e => by simp at e; omega))
      clear hb
      go_wp2
      go_quiet (fail)
      rw [show p + n - p = n by omega]
      have ha : 0 < n → (if cap = p then some (⟨b, off, none⟩ : Addr) else some ⟨b, off + p, none⟩) = some ⟨b, off + p, none⟩ := fun h0 => by rw [if_neg (by omega)]
      generalize (if cap = p then some (⟨b, off, none⟩ : Addr) else some ⟨b, off + p, none⟩) = a1 at ha ⊢
      have HA1 := hide ha
      clear ha
      go_wp2
      go_ret
      exact took_yes hlt ((unhide HF).drewN _) (unhide HA2) (grown_drewN' (unhide HG2)) a1 (unhide HA1)
  · go_enter Tryd.func52, Tryd.ntmps52
    go_wp2_with fail
    refine (unhide HL).mono ?_
    rintro e w1 ⟨rfl, nq, rfl⟩
    have HX := hide (fail_any R _ cap y p er T0 u0 (w.drewN nq) ((unhide HR).drewN nq))
    go_wp2_with fail
    refine (unhide HX).mono ?_
    rintro e w2 ⟨⟨v, rfl⟩, h2, hg2⟩
    have H2 := hide h2
    obtain ⟨ev, hb, T', u', rfl⟩ := h2
    obtain ⟨c0, c1, c2, f1, f2⟩ := three_rdr hb
    go_wp2
    go_ret
    exact took_no (by simp [tkE]; omega) (unhide H2) (grown_drewN hg2)
end Go.Proofs.YtonpahhcfgdeoaaDoor

/- The reader of bytes: numbers. -/
namespace Go.Proofs.YtonpahhcfgdeoaaDoor
open Go.RowKit
set_option linter.unusedVariables false
set_option linter.unusedSimpArgs false

theorem or_join {s x : Int} (h0 : 0 ≤ s) (h1 : s < 65536) (h2 : 0 ≤ x) (h3 : x < 256) : bits .or .i64 (s * 256) x = s * 256 + x :=
  bits_join .i64 63 (by decide) (fun n h₀ h₁ => by rw [IntKind.wrap_i64]; omega) 8 (s * 256) x (by omega) (by omega) (by omega) h2 (by omega) (by omega)
/-- A number of bytes, the highest first. -/
def hiL (z : List Int) : Int := z.foldl (fun n x => n * 256 + x) 0
theorem hiL_step {z : List Int} {k : Nat} (h : k < z.length) : hiL (z.take (k + 1)) = hiL (z.take k) * 256 + z[k] := by
  unfold hiL
  rw [List.take_succ_eq_append_getElem h, List.foldl_append]
  rfl
theorem hiL_in {z : List Int} (hy : ByL z) : ∀ k, k ≤ z.length → k ≤ 3 → 0 ≤ hiL (z.take k) ∧ hiL (z.take k) < 256 ^ k
  | 0, _, _ => by simp [hiL]
  | k + 1, h, h3 => by
      have ih := hiL_in hy k (by omega) (by omega)
      have hx := hy.get k (by omega)
      rw [hiL_step (by omega)]
      rcases (show k = 0 ∨ k = 1 ∨ k = 2 by omega) with rfl | rfl | rfl <;> simp at ih ⊢ <;> omega
theorem tkZ_by {er : Bool} {y : List Int} {p n : Nat} (h : ByL y) : ByL (tkZ er y p n) := by
  unfold tkZ
  split
  · exact ByL.nil
  · exact (h.drop p).take n
theorem tkZ_len (er : Bool) (y : List Int) (p n : Nat) : (tkZ er y p n).length ≤ n := by
  unfold tkZ
  split
  · simp
  · simp; omega
theorem tkZ_place (er : Bool) (y : List Int) (p n : Nat) (hp : p ≤ y.length) : p + (tkZ er y p n).length ≤ y.length := by
  unfold tkZ
  split
  · simpa using hp
  · simp; omega

def Highed (w : World) (R : Nat) (ao : Option Addr) (cap : Nat) (y : List Int) (p : Nat) (er : Bool) (n : Nat) (d : Int) (e : Ending) (w' : World) : Prop :=
  e = .returned (.int .i64 (hiL (tkZ er y p n) - d)) ∧ Rdr w' R ao cap y (p + (tkZ er y p n).length) (tkE er y p n) ∧ w.grownBy w' (some R)

set_option maxRecDepth 100000 in
set_option maxHeartbeats 2000000 in
theorem high_any (ao : Option Addr) (R b off cap : Nat) (y : List Int) (p : Nat) (er : Bool) (n : Nat) (w : World) (h : Rdr w R ao cap y p er) (hao : y = [] ∨ ao = some ⟨b, off, none⟩) (hA : AtY w b off y) (hy : ByL y) (hbR : b ≠ R) (hG : Gl w) (hp : p ≤ y.length) (hl : y.length ≤ 1048576) (hn : n ≤ 3) (hn1 : 1 ≤ n) (hc : y.length ≤ cap) :
    Calls Tryd.prog 32 #[.pointer (some ⟨R, 0, none⟩), .int .i64 n] w (Highed w R ao cap y p er n 0) := by
  have HT := hide (take_any ao R b off cap y p er n w h hao (.inr (.inl (by omega))) hA hbR hG hp hl (by omega) hc)
  go_enter Tryd.func32, Tryd.ntmps32
  go_wp2_with fail
  refine (unhide HT).mono ?_
  rintro e w1 ⟨ao', cap', rfl, hr, h1, hg⟩
  have HH := hide (And.intro h1 hg)
  have hzl := tkZ_len er y p n
  have hzy := tkZ_by (er := er) (p := p) (n := n) hy
  obtain ⟨z, hz⟩ : ∃ z, z = tkZ er y p n := ⟨_, rfl⟩
  rw [← hz] at hr hzl hzy ⊢
  have HZ := hide hz
  clear hz h1 hg hA h hG hy hao
  go_wp2
  go_loop [5, 12] (fun m i => ∃ (j : Nat), j ≤ z.length ∧ i = .int .i64 j ∧ m = .int .i64 (hiL (z.take j))) (fun _ i => z.length - (intOf i).toNat)
  case atStart => exact ⟨0, Nat.zero_le _, rfl, rfl⟩
  case round =>
    obtain ⟨j, hj, rfl, rfl⟩ := hrel
    by_cases hlt : j < z.length
    · rcases hr with rfl | ⟨b', off', rfl, hA⟩
      · simp at hlt
      have d0 := hA j hlt
      have hy0 := hzy.get j hlt
      have hs := hiL_in hzy j hj (by omega)
      have hs2 : hiL (z.take j) < 65536 := by
        rcases (show j = 0 ∨ j = 1 ∨ j = 2 by omega) with rfl | rfl | rfl <;> simp at hs ⊢ <;> omega
      replace hs := hs.1
      have HS := hide (hiL_step hlt)
      obtain ⟨x, hx⟩ : ∃ x, x = z[j] := ⟨_, rfl⟩
      rw [← hx] at d0 hy0 HS
      clear hx
      obtain ⟨s, hs'⟩ : ∃ s, s = hiL (z.take j) := ⟨_, rfl⟩
      rw [← hs'] at hs hs2 HS ⊢
      clear hs'
      go_wp2
      go_round
      case rel => exact ⟨j + 1, by omega, by go_num, by rw [unhide HS, or_join (by omega) (by omega) hy0.1 (by omega)]⟩
      case measure => simp [intOf]; omega
    · go_wp2
      go_ret
      refine ⟨ret_int ?_, ?_⟩
      · rw [List.take_of_length_le (by omega), unhide HZ]; omega
      · exact unhide HH

set_option maxRecDepth 100000 in
set_option maxHeartbeats 1000000 in
theorem one_any (ao : Option Addr) (R b off cap : Nat) (y : List Int) (p : Nat) (er : Bool) (w : World) (h : Rdr w R ao cap y p er) (hao : y = [] ∨ ao = some ⟨b, off, none⟩) (hA : AtY w b off y) (hy : ByL y) (hbR : b ≠ R) (hG : Gl w) (hp : p ≤ y.length) (hl : y.length ≤ 1048576) (hc : y.length ≤ cap) :
    Calls Tryd.prog 35 #[.pointer (some ⟨R, 0, none⟩)] w (Highed w R ao cap y p er 1 0) := by
  have HT := hide (high_any ao R b off cap y p er 1 w h hao hA hy hbR hG hp hl (by omega) (by omega) hc)
  go_enter Tryd.func35, Tryd.ntmps35
  go_wp2_with fail
  refine (unhide HT).mono ?_
  rintro e w1 ⟨rfl, h1, hg⟩
  have HH := hide (And.intro h1 hg)
  clear h1 hg h hA hy hG hao
  go_wp2
  go_ret
  exact ⟨ret_int (by omega), unhide HH⟩

set_option maxRecDepth 100000 in
set_option maxHeartbeats 1000000 in
theorem number_any (ao : Option Addr) (R b off cap : Nat) (y : List Int) (p : Nat) (er : Bool) (w : World) (h : Rdr w R ao cap y p er) (hao : y = [] ∨ ao = some ⟨b, off, none⟩) (hA : AtY w b off y) (hy : ByL y) (hbR : b ≠ R) (hG : Gl w) (hp : p ≤ y.length) (hl : y.length ≤ 1048576) (hc : y.length ≤ cap) :
    Calls Tryd.prog 36 #[.pointer (some ⟨R, 0, none⟩)] w (Highed w R ao cap y p er 3 100000) := by
  have HT := hide (high_any ao R b off cap y p er 3 w h hao hA hy hbR hG hp hl (by omega) (by omega) hc)
  have hs : 0 ≤ hiL (tkZ er y p 3) - 0 ∧ hiL (tkZ er y p 3) - 0 < 16777216 := by
    have hl3 := tkZ_len er y p 3
    have := hiL_in (tkZ_by (er := er) (p := p) (n := 3) hy) _ (Nat.le_refl _) hl3
    rw [List.take_length] at this
    generalize (tkZ er y p 3).length = m at this hl3
    rcases (show m = 0 ∨ m = 1 ∨ m = 2 ∨ m = 3 by omega) with rfl | rfl | rfl | rfl <;> simp at this ⊢ <;> omega
  go_enter Tryd.func36, Tryd.ntmps36
  go_wp2_with fail
  refine (unhide HT).mono ?_
  rintro e w1 ⟨rfl, h1, hg⟩
  have HH := hide (And.intro h1 hg)
  clear h1 hg h hA hy hG hao
  obtain ⟨s, hs'⟩ : ∃ s, s = hiL (tkZ er y p 3) - 0 := ⟨_, rfl⟩
  rw [← hs'] at hs ⊢
  have HS := hide hs'
  clear hs'
  go_wp2
  go_ret
  exact ⟨ret_int (by rw [unhide HS]; omega), unhide HH⟩
end Go.Proofs.YtonpahhcfgdeoaaDoor

/- The reader of bytes: a place. -/
namespace Go.Proofs.YtonpahhcfgdeoaaDoor
open Go.RowKit
set_option linter.unusedVariables false
set_option linter.unusedSimpArgs false

theorem conv_str (w : World) (ao : Option Addr) (cap : Nat) (z : List Int) (hR : RowY w ao z) : (convert 22 9 (.slice ao z.length cap)).run Tryd.prog w = .ok (.string (strOf z)) w := by
  rw [run_convert_bytes_string w 22 9 5 ao z.length cap Tryd.underlying22 Tryd.underlying5 Tryd.underlying9]
  cases ao with
  | none =>
    rcases hR with rfl | ⟨b, off, e, _⟩
    · simp [Conv.bytesToString, strOf, Sem.run_pure]
    · cases e
  | some a =>
    refine run_bytesToString w a z.length cap z ?_
    have := run_loadCells_list (P := Tryd.prog) w a (bys z) (fun j v hj => by
      have hjl : j < z.length := by
        have := (List.getElem?_eq_some_iff.1 hj).1
        simpa [bys] using this
      rcases hR with rfl | ⟨b, off, e, hA⟩
      · simp at hjl
      · simp only [Option.some.injEq] at e
        subst e
        rw [bys_get z j hjl] at hj
        have e : (⟨b, off, none⟩ : Addr).add j = ⟨b, off + j, none⟩ := by unfold Addr.add; split <;> simp_all
        rw [e, hA j hjl]
        exact hj)
    rw [bys_length] at this
    exact this

theorem rdC_short {Y : List Int} (h : Y.length < 4) : rdC Y = none := by
  unfold rdC
  split
  · simp at h; omega
  · rfl
theorem long4 {Y : List Int} (h : 4 ≤ Y.length) : ∃ k a b c r, Y = k :: a :: b :: c :: r := by
  match Y, h with
  | k :: a :: b :: c :: r, _ => exact ⟨k, a, b, c, r, rfl⟩
theorem tk_no {y : List Int} {p n : Nat} (h : y.length < p + n) : tkE false y p n = true ∧ tkZ false y p n = [] := by
  have e : tkE false y p n = true := by simp [tkE, h]
  exact ⟨e, by simp [tkZ, e]⟩
theorem tk_yes {y : List Int} {p n : Nat} (h : p + n ≤ y.length) : tkE false y p n = false ∧ tkZ false y p n = (y.drop p).take n := by
  have e : tkE false y p n = false := by simp [tkE]; omega
  exact ⟨e, by simp [tkZ, e]⟩
theorem tk_err (y : List Int) (p n : Nat) : tkE true y p n = true ∧ tkZ true y p n = [] := ⟨rfl, rfl⟩

/-- What is left of four bytes' reading. -/
theorem four {er : Bool} {y : List Int} {p : Nat} (hp : p ≤ y.length) : (tkE (tkE er y p 1) y (p + (tkZ er y p 1).length) 3 = true ∧ (er = true ∨ y.length < p + 4)) ∨
    (er = false ∧ tkE er y p 1 = false ∧ tkE (tkE er y p 1) y (p + (tkZ er y p 1).length) 3 = false ∧ ∃ k a b c r, y.drop p = k :: a :: b :: c :: r ∧ y.drop (p + 4) = r ∧ tkZ er y p 1 = [k] ∧ tkZ (tkE er y p 1) y (p + (tkZ er y p 1).length) 3 = [a, b, c]) := by
  cases er with
  | true => exact .inl ⟨rfl, .inl rfl⟩
  | false =>
    by_cases h1 : p + 1 ≤ y.length
    · obtain ⟨e1, z1⟩ := tk_yes h1
      have hl : (tkZ false y p 1).length = 1 := by rw [z1]; simp; omega
      rw [e1, hl]
      by_cases h4 : p + 4 ≤ y.length
      · right
        obtain ⟨e2, z2⟩ := tk_yes (y := y) (p := p + 1) (n := 3) (by omega)
        obtain ⟨k, a, b, c, r, hY⟩ := long4 (Y := y.drop p) (by simp; omega)
        have hr : y.drop (p + 4) = r := by rw [← List.drop_drop, hY]; rfl
        have ha : y.drop (p + 1) = a :: b :: c :: r := by rw [← List.drop_drop, hY]; rfl
        exact ⟨rfl, rfl, e2, k, a, b, c, r, hY, hr, by rw [z1, hY]; rfl, by rw [z2, ha]; rfl⟩
      · left
        exact ⟨(tk_no (by omega)).1, .inr (by omega)⟩
    · obtain ⟨e1, z1⟩ := tk_no (y := y) (p := p) (n := 1) (by omega)
      rw [e1]
      exact .inl ⟨rfl, .inr (by omega)⟩

/-- What the reading of a place comes to. -/
def CellR (er : Bool) (y : List Int) (p : Nat) (c : C) (p' : Nat) (er' : Bool) : Prop :=
  c.s.size ≤ 255 ∧ p ≤ p' ∧ p' ≤ y.length ∧ ((er' = true ∧ (er = true ∨ rdC (y.drop p) = none)) ∨ (er' = false ∧ er = false ∧ rdC (y.drop p) = some (c, y.drop p')))

theorem cellR_plain {er : Bool} {y : List Int} {p : Nat} (hp : p ≤ y.length) (h3 : hiL (tkZ er y p 1) ≠ 3) :
    CellR er y p ⟨hiL (tkZ er y p 1), hiL (tkZ (tkE er y p 1) y (p + (tkZ er y p 1).length) 3) - 100000, ByteArray.empty⟩ (p + (tkZ er y p 1).length + (tkZ (tkE er y p 1) y (p + (tkZ er y p 1).length) 3).length) (tkE (tkE er y p 1) y (p + (tkZ er y p 1).length) 3) := by
  have h1 := tkZ_place er y p 1 hp
  have h2 := tkZ_place (tkE er y p 1) y _ 3 h1
  refine ⟨by simp, by omega, h2, ?_⟩
  rcases four (er := er) hp with ⟨e, h | h⟩ | ⟨e0, e1, e2, k, a, b, c, r, hY, hr, z1, z2⟩
  · exact .inl ⟨e, .inl h⟩
  · exact .inl ⟨e, .inr (rdC_short (by simp; omega))⟩
  · right
    refine ⟨e2, e0, ?_⟩
    have hk : hiL [k] = k := by simp [hiL]
    have hn : hiL [a, b, c] - 100000 = valN a b c := by simp [hiL, valN]; omega
    rw [z1, hk] at h3
    rw [z2, z1, hk, hn, hY]
    have hk3 : k ≠ 3 := by omega
    simp [rdC, hk3, hr]
theorem cellR_name {er : Bool} {y : List Int} {p : Nat} (hy : ByL y) (hp : p ≤ y.length) (h3 : hiL (tkZ er y p 1) = 3) (z1 z2 z3 z4 : List Int) (e1 e2 e3 e4 : Bool) (p1 p2 p3 p4 : Nat) (l : Int)
    (hz1 : z1 = tkZ er y p 1) (he1 : e1 = tkE er y p 1) (hp1 : p1 = p + z1.length) (hz2 : z2 = tkZ e1 y p1 3) (he2 : e2 = tkE e1 y p1 3) (hp2 : p2 = p1 + z2.length)
    (hz3 : z3 = tkZ e2 y p2 1) (he3 : e3 = tkE e2 y p2 1) (hp3 : p3 = p2 + z3.length) (hl : l = hiL z3) (hz4 : z4 = tkZ e3 y p3 l.toNat) (he4 : e4 = tkE e3 y p3 l.toNat) (hp4 : p4 = p3 + z4.length) :
    CellR er y p ⟨3, hiL z2 - 100000, strOf z4⟩ p4 e4 := by
  have q1 : p1 ≤ y.length := by subst hz1 he1 hp1; exact tkZ_place er y p 1 hp
  have q2 : p2 ≤ y.length := by subst hz2 he2 hp2; exact tkZ_place e1 y p1 3 q1
  have q3 : p3 ≤ y.length := by subst hz3 he3 hp3; exact tkZ_place e2 y p2 1 q2
  have q4 : p4 ≤ y.length := by subst hz4 he4 hp4; exact tkZ_place e3 y p3 _ q3
  have hl2 : 0 ≤ l ∧ l ≤ 255 := by
    have hl1 := tkZ_len e2 y p2 1
    have := hiL_in (tkZ_by (er := e2) (p := p2) (n := 1) hy) _ (Nat.le_refl _) (by omega)
    rw [List.take_length, ← hz3] at this
    rw [← hz3] at hl1
    rcases (show z3.length = 0 ∨ z3.length = 1 by omega) with e | e <;> rw [e] at this <;> simp at this <;> omega
  refine ⟨?_, by omega, q4, ?_⟩
  · show (strOf z4).size ≤ 255
    rw [strOf_size, hz4]
    have := tkZ_len e3 y p3 l.toNat
    omega
  rcases four (er := er) hp with ⟨e, h⟩ | ⟨e0, ee1, ee2, k, a, b, c, r, hY, hr, zz1, zz2⟩
  · left
    have ee : e2 = true := by subst he2 he1 hp1 hz1; exact e
    have ee3 : e3 = true := by rw [he3, ee]; rfl
    refine ⟨by rw [he4, ee3]; rfl, ?_⟩
    rcases h with h | h
    · exact .inl h
    · exact .inr (rdC_short (by simp; omega))
  · have x1 : e2 = false := by subst he2 he1 hp1 hz1; exact ee2
    have x2 : z2 = [a, b, c] := by subst hz2 he1 hp1 hz1; exact zz2
    have x3 : z1 = [k] := by subst hz1; exact zz1
    have x4 : p2 = p + 4 := by rw [hp2, hp1, x2, x3]; rfl
    have hk : hiL [k] = k := by simp [hiL]
    have hn : hiL [a, b, c] - 100000 = valN a b c := by simp [hiL, valN]; omega
    rw [← hz1, x3, hk] at h3
    have hk3 : k = 3 := by omega
    rw [x1, x4] at hz3 he3
    rw [x4] at hp3
    by_cases h5 : p + 4 + 1 ≤ y.length
    · obtain ⟨t1, t2⟩ := tk_yes h5
      rw [hr] at t2
      cases r with
      | nil => exfalso; have := congrArg List.length hr; simp at this; omega
      | cons m s =>
        have zs : z3 = [m] := by rw [hz3, t2]; rfl
        have hm : hiL [m] = m := by simp [hiL]
        have hs : y.drop (p + 4 + 1) = s := by rw [← List.drop_drop, hr]; rfl
        have hlm : l = m := by rw [hl, zs, hm]
        have hp3' : p3 = p + 4 + 1 := by rw [hp3, zs]; rfl
        rw [he3, t1, hp3', hlm] at hz4 he4
        have hsl : s.length = y.length - (p + 4 + 1) := by rw [← hs]; simp
        by_cases h6 : p + 4 + 1 + m.toNat ≤ y.length
        · obtain ⟨t3, t4⟩ := tk_yes h6
          right
          refine ⟨by rw [he4, t3], e0, ?_⟩
          rw [hs] at t4
          have hz4l : z4.length = m.toNat := by rw [hz4, t4]; simp; omega
          have hd : y.drop p4 = s.drop m.toNat := by rw [hp4, hp3', hz4l, ← List.drop_drop, hs]
          rw [hY, hd, x2, hn, hz4, t4]
          simp only [rdC, hk3, if_true]
          rw [if_pos (by omega)]
        · obtain ⟨t3, t4⟩ := tk_no (y := y) (p := p + 4 + 1) (n := m.toNat) (by omega)
          left
          refine ⟨by rw [he4, t3], .inr ?_⟩
          rw [hY]
          simp only [rdC, hk3, if_true]
          rw [if_neg (by omega)]
    · obtain ⟨t1, t2⟩ := tk_no (y := y) (p := p + 4) (n := 1) (by omega)
      left
      refine ⟨by rw [he4, he3, t1]; rfl, .inr ?_⟩
      have : r = [] := by rw [← hr]; simp; omega
      rw [hY, this]
      simp [rdC, hk3]
end Go.Proofs.YtonpahhcfgdeoaaDoor
