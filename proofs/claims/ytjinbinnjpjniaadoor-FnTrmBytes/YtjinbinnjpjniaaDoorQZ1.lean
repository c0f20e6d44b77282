/- The reader of bytes: fail, left. -/
import Derived.Test.YtjinbinnjpjniaaDoorQZ0YS1YX1
import Derived.Test.YtjinbinnjpjniaaDoorQYT1
import Derived.Deep.QuietTactic
import Derived.BigQuiet
namespace Go.Proofs.YtjinbinnjpjniaaDoor
open Go.RowKit
set_option linter.unusedVariables false
set_option linter.unusedSimpArgs false

theorem grown_setC (W : World) (a : Addr) (v : Value) : W.grownBy (W.setCell a v) (some a.block) :=
  ⟨rfl, rfl, rfl, (KeepsWalks.setCell W _ v).size, fun k _ hk => Below.heap_setCell _ _ _ k (fun e => hk (by rw [e]))⟩
/-- An error, or none. -/
def isE (er : Bool) (ev : Value) : Prop := if er then ∃ T u, ev = .iface T u else ev = .nilIface
/-- A reader at R: the bytes, its place, whether it has an error. -/
def Rdr (w : World) (R : Nat) (ao : Option Addr) (cap : Nat) (y : List Int) (p : Nat) (er : Bool) : Prop :=
  ∃ ev, w.heap[R]? = some (.cells #[.slice ao y.length cap, .int .i64 p, ev] 54 (0, 0)) ∧ isE er ev
theorem three_rdr {w : World} {B : Nat} {a0 a1 a2 : Value} {T : TypeId} (h : w.heap[B]? = some (.cells #[a0, a1, a2] T (0, 0))) :
    w.cell? ⟨B, 0, none⟩ = some a0 ∧ w.cell? ⟨B, 1, none⟩ = some a1 ∧ w.cell? ⟨B, 2, none⟩ = some a2 ∧ w.frozen? ⟨B, 1, none⟩ = false ∧ w.frozen? ⟨B, 2, none⟩ = false := by
  refine ⟨?_, ?_, ?_, ?_, ?_⟩ <;> (simp only [World.cell?, World.frozen?]; rw [h]; rfl)
theorem Rdr.lt {w : World} {R : Nat} {ao : Option Addr} {cap : Nat} {y : List Int} {p : Nat} {er : Bool} (h : Rdr w R ao cap y p er) : R < w.heap.size := by
  obtain ⟨ev, h, _⟩ := h
  exact (Array.getElem?_eq_some_iff.1 h).1
theorem Rdr.below {w w' : World} {R : Nat} {ao : Option Addr} {cap : Nat} {y : List Int} {p : Nat} {er : Bool} (h : Rdr w R ao cap y p er) (hb : Below w.heap.size w w') : Rdr w' R ao cap y p er := by
  have hl := h.lt
  obtain ⟨ev, h, he⟩ := h
  exact ⟨ev, (hb.block R hl).trans h, he⟩
/-- The package's errors are there. -/
def Gl (w : World) : Prop := ∀ g, g = 4 ∨ g = 0 ∨ g = 1 → ∃ T u, w.cell? ⟨g, 0, none⟩ = some (.iface T u)
theorem Gl.grown {w w' : World} {r : Option Nat} (h : Gl w) (hg : w.grownBy w' r) (hr : ∀ k, r = some k → 4 < k) : Gl w' := fun g hgl => by
  obtain ⟨T, u, hc⟩ := h g hgl
  refine ⟨T, u, (World.cell?_of_block (a := ⟨g, 0, none⟩) (hg.block g (World.block_lt_of_cell? w _ hc) (fun e => ?_))).trans hc⟩
  have := hr g e.symm
  omega

set_option maxRecDepth 100000 in
set_option maxHeartbeats 1000000 in
theorem fail_any (R : Nat) (ao : Option Addr) (cap : Nat) (y : List Int) (p : Nat) (er : Bool) (T : TypeId) (u : Value) (w : World) (h : Rdr w R ao cap y p er) :
    Calls Tryd.prog 60 #[.pointer (some ⟨R, 0, none⟩), .iface T u] w fun e w' => (∃ v, e = .returned v) ∧ Rdr w' R ao cap y p true ∧ w.grownBy w' (some R) := by
  obtain ⟨ev, hb, he⟩ := h
  obtain ⟨c0, c1, c2, f1, f2⟩ := three_rdr hb
  cases er with
  | true =>
    obtain ⟨T', u', rfl⟩ := he
    have HF : Hid (Rdr w R ao cap y p true) := ⟨_, hb, _, _, rfl⟩
    clear hb
    go_enter Tryd.func60, Tryd.ntmps60
    go_wp2
    exact bodyPost_end (results_none rfl _ _ _) rfl ⟨⟨_, rfl⟩, unhide HF, grown_refl _ _⟩
  | false =>
    have he' : ev = .nilIface := he
    subst he'
    have HF : Hid (Rdr (w.setCell ⟨R, 2, none⟩ (.iface T u)) R ao cap y p true) := ⟨.iface T u, heap_setCell_same w R 2 _ _ _ hb, _, _, rfl⟩
    clear hb he
    go_enter Tryd.func60, Tryd.ntmps60
    go_wp2
    exact bodyPost_end (results_none rfl _ _ _) rfl ⟨⟨_, rfl⟩, unhide HF, grown_setC w ⟨R, 2, none⟩ _⟩

set_option maxRecDepth 100000 in
set_option maxHeartbeats 1000000 in
theorem left_any (R : Nat) (ao : Option Addr) (cap : Nat) (y : List Int) (p : Nat) (er : Bool) (w : World) (h : Rdr w R ao cap y p er) (hp : p ≤ y.length) (hl : y.length ≤ 1048576) :
    Calls Tryd.prog 61 #[.pointer (some ⟨R, 0, none⟩)] w fun e w' => e = .returned (.int .i64 ((y.length : Int) - p)) ∧ ∃ n, w' = w.drewN n := by
  obtain ⟨ev, hb, he⟩ := h
  obtain ⟨c0, c1, c2, f1, f2⟩ := three_rdr hb
  clear hb he
  go_enter Tryd.func61, Tryd.ntmps61
  go_wp2
  go_quiet (fail)
  go_wp2
  go_ret
  exact ⟨rfl, _, rfl⟩

theorem Rdr.drewN {w : World} {R : Nat} {ao : Option Addr} {cap : Nat} {y : List Int} {p : Nat} {er : Bool} (h : Rdr w R ao cap y p er) (n : Nat) : Rdr (w.drewN n) R ao cap y p er := h

theorem grown_drewN {w w' : World} {n : Nat} {r : Option Nat} (h : (w.drewN n).grownBy w' r) : w.grownBy w' r := ⟨h.os, h.tape, h.output, h.size, h.block⟩

theorem grown_drewN' {w w' : World} {n : Nat} {r : Option Nat} (h : w.grownBy w' r) : w.grownBy (w'.drewN n) r := ⟨h.os, h.tape, h.output, h.size, h.block⟩

/-- Bytes taken: whether that fails, and what they are. -/
def tkE (er : Bool) (y : List Int) (p n : Nat) : Bool := er || decide (y.length < p + n)
def tkZ (er : Bool) (y : List Int) (p n : Nat) : List Int := if tkE er y p n then [] else (y.drop p).take n
def Took (w : World) (R : Nat) (ao : Option Addr) (cap : Nat) (y : List Int) (p : Nat) (er : Bool) (n : Nat) (e : Ending) (w' : World) : Prop :=
  ∃ ao' cap', e = .returned (.slice ao' (tkZ er y p n).length cap') ∧ RowY w' ao' (tkZ er y p n) ∧ Rdr w' R ao cap y (p + (tkZ er y p n).length) (tkE er y p n) ∧ w.grownBy w' (some R)
theorem took_no {w w' : World} {R : Nat} {ao : Option Addr} {cap : Nat} {y : List Int} {p : Nat} {er : Bool} {n : Nat} (he : tkE er y p n = true) (h : Rdr w' R ao cap y p true) (hg : w.grownBy w' (some R)) : Took w R ao cap y p er n (.returned (.slice none 0 0)) w' := by
  have ez : tkZ er y p n = [] := by simp [tkZ, he]
  refine ⟨none, 0, by rw [ez]; rfl, by rw [ez]; exact .inl rfl, by rw [ez, he]; exact h, hg⟩
theorem took_yes {w w' : World} {R : Nat} {b off cap cap' : Nat} {y : List Int} {p n : Nat} (hn : p + n ≤ y.length) (h : Rdr w' R (some ⟨b, off, none⟩) cap y (p + n) false) (hA : AtY w' b off y) (hg : w.grownBy w' (some R)) (ao' : Option Addr) (ha : 0 < n → ao' = some ⟨b, off + p, none⟩) : Took w R (some ⟨b, off, none⟩) cap y p false n (.returned (.slice ao' n cap')) w' := by
  have he : tkE false y p n = false := by simp [tkE]; omega
  have ez : tkZ false y p n = (y.drop p).take n := by simp [tkZ, he]
  have el : (tkZ false y p n).length = n := by rw [ez]; simp; omega
  refine ⟨ao', cap', by rw [el], ?_, by rw [el, he]; exact h, hg⟩
  rw [ez]
  by_cases h0 : n = 0
  · subst h0; exact .inl (by simp)
  · rw [ha (by omega)]
    exact .of_at ((hA.drop p).take n)

set_option maxRecDepth 100000 in
set_option maxHeartbeats 2000000 in
theorem take_any (ao : Option Addr) (R b off cap : Nat) (y : List Int) (p : Nat) (er : Bool) (n : Nat) (w : World) (h : Rdr w R ao cap y p er) (hao : y = [] ∨ ao = some ⟨b, off, none⟩) (h0 : er = true ∨ 0 < n ∨ y ≠ []) (hA : AtY w b off y) (hbR : b ≠ R) (hG : Gl w) (hp : p ≤ y.length) (hl : y.length ≤ 1048576) (hn : n ≤ 1000) (hc : y.length ≤ cap) :
    Calls Tryd.prog 78 #[.pointer (some ⟨R, 0, none⟩), .int .i64 n] w (Took w R ao cap y p er n) := by
  have HL := hide (left_any R _ cap y p er w h hp hl)
  have HR := hide h
  have HAO := hide (And.intro hao h0)
  clear hao h0
  obtain ⟨T0, u0, g0⟩ := hG 4 (.inl rfl)
  by_cases hlt : p + n ≤ y.length
  · cases er with
    | true =>
      go_enter Tryd.func78, Tryd.ntmps78
      go_wp2_with fail
      refine (unhide HL).mono ?_
      rintro e w1 ⟨rfl, nq, rfl⟩
      obtain ⟨ev, hb, T', u', rfl⟩ := (unhide HR).drewN nq
      obtain ⟨c0, c1, c2, f1, f2⟩ := three_rdr hb
      go_wp2
      go_ret
      exact took_no rfl (unhide HR) (grown_drewN (grown_refl _ _))
    | false =>
      obtain ⟨hao, h0⟩ := unhide HAO
      have hao' : ao = some ⟨b, off, none⟩ := by
        rcases hao with e | e
        · exfalso
          subst e
          simp at hlt
          rcases h0 with h0 | h0 | h0
          · cases h0
          · omega
          · exact h0 rfl
        · exact e
      subst hao'
      clear hao h0 HAO
      go_enter Tryd.func78, Tryd.ntmps78
      go_wp2_with fail
      refine (unhide HL).mono ?_
      rintro e w1 ⟨rfl, nq, rfl⟩
      obtain ⟨ev, hb, he⟩ := (unhide HR).drewN nq
      have he' : ev = .nilIface := he
      subst he'
      obtain ⟨c0, c1, c2, f1, f2⟩ := three_rdr hb
      obtain ⟨W, hW⟩ : ∃ W, W = w.drewN nq := ⟨_, rfl⟩
      have HW := hide (show w.grownBy W (some R) ∧ AtY W b off y from by rw [hW]; exact ⟨grown_drewN (grown_refl _ _), hA⟩)
      rw [← hW] at hb c0 c1 c2 f1 f2 ⊢
      clear hW
      have HF : Hid (Rdr (W.setCell ⟨R, 1, none⟩ (.int .i64 ((p : Int) + n))) R (some ⟨b, off, none⟩) cap y (p + n) false) := ⟨.nilIface, heap_setCell_same W R 1 _ _ _ hb, rfl⟩
      have HG2 := hide (grown_trans (unhide HW).1 (grown_setC W ⟨R, 1, none⟩ (.int .i64 ((p : Int) + n))))
      have HA2 := hide (atY_grown (unhide HW).2 (grown_setC W ⟨R, 1, none⟩ (.int .i64 ((p : Int) + n))) (fun k e => by simp at e; omega))
      clear hb
      go_wp2
      go_quiet (fail)
      rw [show p + n - p = n by omega]
      have ha : 0 < n → (if cap = p then some (⟨b, off, none⟩ : Addr) else some ⟨b, off + p, none⟩) = some ⟨b, off + p, none⟩ := fun h0 => by rw [if_neg (by omega)]
      generalize (if cap = p then some (⟨b, off, none⟩ : Addr) else some ⟨b, off + p, none⟩) = a1 at ha ⊢
      have HA1 := hide ha
      clear ha
      go_wp2
      go_ret
      exact took_yes hlt ((unhide HF).drewN _) (unhide HA2) (grown_drewN' (unhide HG2)) a1 (unhide HA1)
  · go_enter Tryd.func78, Tryd.ntmps78
    go_wp2_with fail
    refine (unhide HL).mono ?_
    rintro e w1 ⟨rfl, nq, rfl⟩
    have HX := hide (fail_any R _ cap y p er T0 u0 (w.drewN nq) ((unhide HR).drewN nq))
    go_wp2_with fail
    refine (unhide HX).mono ?_
    rintro e w2 ⟨⟨v, rfl⟩, h2, hg2⟩
    have H2 := hide h2
    obtain ⟨ev, hb, T', u', rfl⟩ := h2
    obtain ⟨c0, c1, c2, f1, f2⟩ := three_rdr hb
    go_wp2
    go_ret
    exact took_no (by simp [tkE]; omega) (unhide H2) (grown_drewN hg2)
end Go.Proofs.YtjinbinnjpjniaaDoor
