import Derived.Test.YtonpahhcfgdeoaaDoorQZ1Z2Z3
import Derived.Test.YtonpahhcfgdeoaaDoorQW13SB1Plain2YB3Z0
/- The reader of bytes: the walk of a place. -/
namespace Go.Proofs.YtonpahhcfgdeoaaDoor
open Go.RowKit
set_option linter.unusedVariables false
set_option linter.unusedSimpArgs false

theorem Rdr.apart {w w' : World} {R : Nat} {ao : Option Addr} {cap : Nat} {y : List Int} {p : Nat} {er : Bool} {r : Option Nat} (h : Rdr w R ao cap y p er) (hg : w.grownBy w' r) (hr : r ≠ some R) : Rdr w' R ao cap y p er := by
  have hl := h.lt
  obtain ⟨ev, h, he⟩ := h
  exact ⟨ev, (hg.block R hl (fun e => hr e.symm)).trans h, he⟩

/-- While a place is being read. -/
structure CS (w : World) (ao : Option Addr) (R b off cap : Nat) (y : List Int) (p : Nat) (er : Bool) (c : C) (U : World) : Prop where
  gr : w.grownBy U (some R)
  ba : U.heap[w.heap.size]? = some (.cells #[.int .i64 0, .int .i64 0, .string ByteArray.empty] 55 (0, 0))
  bb : U.heap[w.heap.size + 1]? = some (.cells #[.int .i64 c.k, .int .i64 c.n, .string c.s] 55 (0, 0))
  rd : Rdr U R ao cap y p er
  lt : R < w.heap.size
  at_ : AtY U b off y
  ne : b ≠ R
  gl : Gl U
  bl : b < w.heap.size
  so : y = [] ∨ ao = some ⟨b, off, none⟩
  r4 : 4 < R

theorem Gl.err {w w' : World} {R : Nat} (h : Gl w) (hg : w.grownBy w' (some R)) (hr : 4 < R) : Gl w' := h.grown hg (fun k e => by simp at e; omega)
theorem CS.read {w : World} {ao : Option Addr} {R b off cap : Nat} {y : List Int} {p p' : Nat} {er er' : Bool} {c : C} {U U' : World} (h : CS w ao R b off cap y p er c U) (hg : U.grownBy U' (some R)) (hr : Rdr U' R ao cap y p' er') : CS w ao R b off cap y p' er' c U' := by
  have hlt := h.lt
  have hA : w.heap.size < U.heap.size := (Array.getElem?_eq_some_iff.1 h.ba).1
  have hB : w.heap.size + 1 < U.heap.size := (Array.getElem?_eq_some_iff.1 h.bb).1
  exact ⟨grown_trans h.gr hg, (hg.block _ hA (fun e => by simp at e; omega)).trans h.ba, (hg.block _ hB (fun e => by simp at e; omega)).trans h.bb, hr, h.lt, atY_grown h.at_ hg (fun k e => by simp at e; have := h.ne; omega), h.ne, h.gl.err hg h.r4, h.bl, h.so, h.r4⟩
theorem CS.below {w : World} {ao : Option Addr} {R b off cap : Nat} {y : List Int} {p : Nat} {er : Bool} {c : C} {U U' : World} (h : CS w ao R b off cap y p er c U) (hb : Below U.heap.size U U') : CS w ao R b off cap y p er c U' :=
  h.read (grown_below hb) (h.rd.below hb)
theorem CS.set {w : World} {ao : Option Addr} {R b off cap : Nat} {y : List Int} {p : Nat} {er : Bool} {c : C} {U : World} (h : CS w ao R b off cap y p er c U) (i : Nat) (v : Value) (c' : C)
    (hv : (U.setCell ⟨w.heap.size + 1, i, none⟩ v).heap[w.heap.size + 1]? = some (.cells #[.int .i64 c'.k, .int .i64 c'.n, .string c'.s] 55 (0, 0))) : CS w ao R b off cap y p er c' (U.setCell ⟨w.heap.size + 1, i, none⟩ v) := by
  have hlt := h.lt
  have hA : w.heap.size < U.heap.size := (Array.getElem?_eq_some_iff.1 h.ba).1
  have hg := grown_setC U ⟨w.heap.size + 1, i, none⟩ v
  have hAt := h.at_
  refine ⟨?_, (hg.block _ hA (fun e => by simp at e)).trans h.ba, hv, h.rd.apart hg (by simp; omega), h.lt, ?_, h.ne, ?_, h.bl, h.so, h.r4⟩
  · exact ⟨hg.os.trans h.gr.os, hg.tape.trans h.gr.tape, hg.output.trans h.gr.output, Nat.le_trans h.gr.size hg.size, fun k hk hn => (hg.block k (Nat.lt_of_lt_of_le hk h.gr.size) (fun e => by simp at e; omega)).trans (h.gr.block k hk hn)⟩
  · exact atY_grown hAt hg (fun k e => by simp at e; have := h.bl; omega)
  · exact h.gl.grown hg (fun k e => by simp at e; have := h.r4; omega)

theorem six_rdr {w : World} {B : Nat} {a0 a1 a2 : Value} {T : TypeId} (h : w.heap[B]? = some (.cells #[a0, a1, a2] T (0, 0))) :
    (w.cell? ⟨B, 0, none⟩ = some a0 ∧ w.cell? ⟨B, 1, none⟩ = some a1 ∧ w.cell? ⟨B, 2, none⟩ = some a2) ∧ w.frozen? ⟨B, 0, none⟩ = false ∧ w.frozen? ⟨B, 1, none⟩ = false ∧ w.frozen? ⟨B, 2, none⟩ = false := by
  refine ⟨⟨?_, ?_, ?_⟩, ?_, ?_, ?_⟩ <;> (simp only [World.cell?, World.frozen?]; rw [h]; rfl)
theorem CS.out {w : World} {ao : Option Addr} {R b off cap : Nat} {y : List Int} {p : Nat} {er : Bool} {c : C} {U : World} (h : CS w ao R b off cap y p er c U) (i : Nat) (v : Value) :
    Rdr (U.setCell ⟨w.heap.size, i, none⟩ v) R ao cap y p er ∧ w.grownBy (U.setCell ⟨w.heap.size, i, none⟩ v) (some R) := by
  have hlt := h.lt
  have hg := grown_setC U ⟨w.heap.size, i, none⟩ v
  exact ⟨h.rd.apart hg (by simp; omega), ⟨hg.os.trans h.gr.os, hg.tape.trans h.gr.tape, hg.output.trans h.gr.output, Nat.le_trans h.gr.size hg.size, fun k hk hn => (hg.block k (Nat.lt_of_lt_of_le hk h.gr.size) (fun e => by simp at e; omega)).trans (h.gr.block k hk hn)⟩⟩
theorem CS.out3 {w : World} {ao : Option Addr} {R b off cap : Nat} {y : List Int} {p : Nat} {er : Bool} {c : C} {U : World} (h : CS w ao R b off cap y p er c U) (u v x : Value) :
    Rdr (((U.setCell ⟨w.heap.size, 0, none⟩ u).setCell ⟨w.heap.size, 1, none⟩ v).setCell ⟨w.heap.size, 2, none⟩ x) R ao cap y p er ∧ w.grownBy (((U.setCell ⟨w.heap.size, 0, none⟩ u).setCell ⟨w.heap.size, 1, none⟩ v).setCell ⟨w.heap.size, 2, none⟩ x) (some R) := by
  have hlt := h.lt
  have g1 := grown_setC (U.setCell ⟨w.heap.size, 0, none⟩ u) ⟨w.heap.size, 1, none⟩ v
  have g2 := grown_setC ((U.setCell ⟨w.heap.size, 0, none⟩ u).setCell ⟨w.heap.size, 1, none⟩ v) ⟨w.heap.size, 2, none⟩ x
  obtain ⟨r0, g0⟩ := h.out 0 u
  have st : ∀ {X Y : World} {k : Nat}, w.grownBy X (some R) → X.grownBy Y (some k) → w.heap.size ≤ k → w.grownBy Y (some R) := fun {X Y k} a b hk =>
    ⟨b.os.trans a.os, b.tape.trans a.tape, b.output.trans a.output, Nat.le_trans a.size b.size, fun j hj hn => (b.block j (Nat.lt_of_lt_of_le hj a.size) (fun e => by simp at e; omega)).trans (a.block j hj hn)⟩
  exact ⟨(r0.apart g1 (by simp; omega)).apart g2 (by simp; omega), st (st g0 g1 (Nat.le_refl _)) g2 (Nat.le_refl _)⟩
theorem fld_optStr (a b : Value) (w : World) : Sem.run Tryd.prog (Instr.field 97 (.agg #[a, b]) 1) w = .ok b w := by
  simp [Instr.field, asAgg, go_sem]

def CellOut (w : World) (ao : Option Addr) (R cap : Nat) (y : List Int) (p : Nat) (er : Bool) (e : Ending) (w' : World) : Prop :=
  ∃ c p' er', e = .returned (.agg #[.int .i64 c.k, .int .i64 c.n, .string c.s]) ∧ CellR er y p c p' er' ∧ Rdr w' R ao cap y p' er' ∧ w.grownBy w' (some R)
theorem cellOut_mk {w w' : World} {ao : Option Addr} {R cap : Nat} {y : List Int} {p p' : Nat} {er er' : Bool} {c : C} (h1 : CellR er y p c p' er') (h2 : Rdr w' R ao cap y p' er' ∧ w.grownBy w' (some R)) : CellOut w ao R cap y p er (.returned (.agg #[.int .i64 c.k, .int .i64 c.n, .string c.s])) w' := ⟨c, p', er', rfl, h1, h2⟩

set_option maxRecDepth 100000 in
set_option maxHeartbeats 4000000 in
theorem cell_any (ao : Option Addr) (R b off cap : Nat) (y : List Int) (p : Nat) (er : Bool) (w : World) (h : Rdr w R ao cap y p er) (hao : y = [] ∨ ao = some ⟨b, off, none⟩) (hA : AtY w b off y) (hy : ByL y) (hbR : b ≠ R) (hbl : b < w.heap.size) (hG : Gl w) (hR4 : 4 < R) (hp : p ≤ y.length) (hl : y.length ≤ 1048576) (hc : y.length ≤ cap) :
    Calls Tryd.prog 53 #[.pointer (some ⟨R, 0, none⟩)] w (CellOut w ao R cap y p er) := by
  have hlt := h.lt
  obtain ⟨W, hW⟩ : ∃ W, W = (w.alloc (Obj.cells #[Value.int IntKind.i64 0, Value.int IntKind.i64 0, Value.string ⟨#[]⟩] 55)).alloc (Obj.cells #[Value.int IntKind.i64 0, Value.int IntKind.i64 0, Value.string ⟨#[]⟩] 55) := ⟨_, rfl⟩
  have hB0 : Below w.heap.size w W := by rw [hW]; exact below2 _ _ _
  have S0 : CS w ao R b off cap y p er ⟨0, 0, ByteArray.empty⟩ W := by
    refine ⟨grown_below hB0, ?_, ?_, h.below hB0, hlt, hA.below hB0, hbR, hG.err (grown_below hB0) hR4, hbl, hao, hR4⟩
    · rw [hW]; exact ((cell_below _ _).block _ (by simp)).trans (heap_alloc_new _ _)
    · rw [hW, show w.heap.size + 1 = (w.alloc (Obj.cells #[Value.int IntKind.i64 0, Value.int IntKind.i64 0, Value.string ⟨#[]⟩] 55)).heap.size by simp]; exact heap_alloc_new _ _
  have H1 := hide (one_any ao R b off cap y p er W S0.rd S0.so S0.at_ hy S0.ne S0.gl hp hl hc)
  have HS0 := hide S0
  clear S0 hB0
  obtain ⟨k, hk⟩ : ∃ k, k = hiL (tkZ er y p 1) := ⟨_, rfl⟩
  go_enter Tryd.func53, Tryd.ntmps53
  go_wp2_with fail
  rw [← hW]
  clear hW
  refine (unhide H1).mono ?_
  rintro e w1 ⟨rfl, h1, g1⟩
  rw [Int.sub_zero, ← hk]
  have S1 := (unhide HS0).read g1 h1
  obtain ⟨⟨a0, a1, a2⟩, a3, a4, a5⟩ := six_rdr S1.bb
  have S1' := S1.set 0 (.int .i64 k) ⟨k, 0, ByteArray.empty⟩ (heap_setCell_same w1 _ 0 _ _ _ S1.bb)
  have hp1 := tkZ_place er y p 1 hp
  have H2 := hide (number_any ao R b off cap y _ _ _ S1'.rd S1'.so S1'.at_ hy S1'.ne S1'.gl hp1 hl hc)
  have HS1 := hide S1'
  have HK := hide hk
  clear S1 S1' h1 g1 HS0 h hA hG hk
  go_wp2_with fail
  refine (unhide H2).mono ?_
  rintro e w2 ⟨rfl, h2, g2⟩
  have S2 := (unhide HS1).read g2 h2
  clear HS1 a0 a1 a2 a3 a4 a5
  obtain ⟨n, hn⟩ : ∃ n, n = hiL (tkZ (tkE er y p 1) y (p + (tkZ er y p 1).length) 3) - 100000 := ⟨_, rfl⟩
  rw [← hn]
  obtain ⟨⟨a0, a1, a2⟩, a3, a4, a5⟩ := six_rdr S2.bb
  have S2' := S2.set 1 (.int .i64 n) ⟨k, n, ByteArray.empty⟩ (heap_setCell_same w2 _ 1 _ _ _ S2.bb)
  obtain ⟨W2, hW2⟩ : ∃ W2, W2 = w2.setCell ⟨w.heap.size + 1, 1, none⟩ (.int .i64 n) := ⟨_, rfl⟩
  rw [← hW2] at S2'
  obtain ⟨⟨b0, b1, b2⟩, b3, b4, b5⟩ := six_rdr S2'.bb
  have HS2 := hide S2'
  have HN := hide hn
  have hp2 := tkZ_place (tkE er y p 1) y _ 3 hp1
  clear S2 S2' h2 g2 hn H2 H1
  go_wp2_with fail
  rw [← hW2]
  clear hW2 a0 a1 a2 a3 a4 a5
  refine (nameAt_any ⟨k, n, ByteArray.empty⟩ W2).mono ?_
  rintro e w3 ⟨rfl, hb3⟩
  have S3 := (unhide HS2).below hb3
  obtain ⟨⟨c0, c1, c2⟩, c3, c4, c5⟩ := six_rdr S3.bb
  obtain ⟨⟨d0, d1, d2⟩, d3, d4, d5⟩ := six_rdr S3.ba
  have hfl := fld_optStr
  clear b0 b1 b2 b3 b4 b5 hb3 HS2
  by_cases h3 : k = 3
  · subst h3
    have en : nameOf ⟨3, n, ByteArray.empty⟩ = .agg #[.string ByteArray.empty, .bool true] := by simp [nameOf]
    rw [en]
    clear en
    obtain ⟨z1, hz1⟩ : ∃ z1, z1 = tkZ er y p 1 := ⟨_, rfl⟩
    obtain ⟨e1, he1⟩ : ∃ e1, e1 = tkE er y p 1 := ⟨_, rfl⟩
    rw [← hz1, ← he1] at S3 HN hp2
    rw [← hz1] at HK hp1
    obtain ⟨p1, hq1⟩ : ∃ p1, p1 = p + z1.length := ⟨_, rfl⟩
    rw [← hq1] at S3 HN hp2 hp1
    obtain ⟨z2, hz2⟩ : ∃ z2, z2 = tkZ e1 y p1 3 := ⟨_, rfl⟩
    obtain ⟨e2, he2⟩ : ∃ e2, e2 = tkE e1 y p1 3 := ⟨_, rfl⟩
    rw [← hz2, ← he2] at S3
    rw [← hz2] at HN hp2
    obtain ⟨p2, hq2⟩ : ∃ p2, p2 = p1 + z2.length := ⟨_, rfl⟩
    rw [← hq2] at S3 hp2
    obtain ⟨z3, hz3⟩ : ∃ z3, z3 = tkZ e2 y p2 1 := ⟨_, rfl⟩
    obtain ⟨e3, he3⟩ : ∃ e3, e3 = tkE e2 y p2 1 := ⟨_, rfl⟩
    obtain ⟨p3, hq3⟩ : ∃ p3, p3 = p2 + z3.length := ⟨_, rfl⟩
    have H3 := hide (one_any ao R b off cap y p2 e2 w3 S3.rd S3.so S3.at_ hy S3.ne S3.gl hp2 hl hc)
    have hp3 : p3 ≤ y.length := by rw [hq3, hz3]; exact tkZ_place e2 y p2 1 hp2
    have hl2 : ∃ m : Nat, hiL z3 = m ∧ m ≤ 255 := by
      have hl1 := tkZ_len e2 y p2 1
      have := hiL_in (tkZ_by (er := e2) (p := p2) (n := 1) hy) _ (Nat.le_refl _) (by omega)
      rw [List.take_length, ← hz3] at this
      rw [← hz3] at hl1
      refine ⟨(hiL z3).toNat, by omega, ?_⟩
      rcases (show z3.length = 0 ∨ z3.length = 1 by omega) with e | e <;> rw [e] at this <;> simp at this <;> omega
    obtain ⟨m, hm, hm255⟩ := hl2
    obtain ⟨z4, hz4⟩ : ∃ z4, z4 = tkZ e3 y p3 m := ⟨_, rfl⟩
    obtain ⟨e4, he4⟩ : ∃ e4, e4 = tkE e3 y p3 m := ⟨_, rfl⟩
    obtain ⟨p4, hq4⟩ : ∃ p4, p4 = p3 + z4.length := ⟨_, rfl⟩
    have HCR : Hid (CellR er y p ⟨3, n, strOf z4⟩ p4 e4) := by
      have hnn : n = hiL z2 - 100000 := unhide HN
      rw [hnn]
      exact cellR_name hy hp (by rw [← hz1, ← unhide HK]) z1 z2 z3 z4 e1 e2 e3 e4 p1 p2 p3 p4 m hz1 he1 hq1 hz2 he2 hq2 hz3 he3 hq3 (by omega) (by simpa using hz4) (by simpa using he4) hq4
    have h0 : e3 = true ∨ 0 < m ∨ y ≠ [] := by
      cases hh : e3 with
      | true => exact .inl rfl
      | false =>
        right; right
        intro hye
        rw [he3, hye] at hh
        simp [tkE] at hh
    have HS3 := hide S3
    have hK2 := hide (And.intro hm (And.intro hq3 (And.intro hz3 he3)))
    have hK3 := hide (And.intro hz4 (And.intro he4 hq4))
    clear S3 hz1 he1 hq1 hz2 he2 hq2 hz3 he3 hq3 hm hz4 he4 hq4 HN HK hp1
    go_wp2_with fail
    refine (unhide H3).mono ?_
    rintro e w4 ⟨rfl, h4, g4⟩
    have S4 := (unhide HS3).read g4 h4
    obtain ⟨hm, hq3, hz3, he3⟩ := unhide hK2
    rw [← hz3, ← he3, ← hq3] at S4
    rw [← hz3, hm, Int.sub_zero]
    obtain ⟨⟨x0, x1, x2⟩, x3, x4, x5⟩ := six_rdr S4.bb
    have H4 := hide (take_any ao R b off cap y p3 e3 m w4 S4.rd S4.so h0 S4.at_ S4.ne S4.gl hp3 hl (by omega) hc)
    have HS4 := hide S4
    clear S4 hm hq3 hz3 he3 hK2 h4 g4 HS3 H3 c0 c1 c2 c3 c4 c5 d0 d1 d2 d3 d4 d5
    go_wp2_with fail
    refine (unhide H4).mono ?_
    rintro e w5 ⟨ao', cap', rfl, hr5, h5, g5⟩
    obtain ⟨hz4, he4, hq4⟩ := unhide hK3
    have S5 := (unhide HS4).read g5 h5
    rw [← hz4, ← he4, ← hq4] at S5
    rw [← hz4] at hr5
    rw [← hz4]
    have hcv := conv_str w5 ao' cap' z4 hr5
    obtain ⟨⟨u0, u1, u2⟩, u3, u4, u5⟩ := six_rdr S5.bb
    have S6 := S5.set 2 (.string (strOf z4)) ⟨3, n, strOf z4⟩ (heap_setCell_same w5 _ 2 _ _ _ S5.bb)
    have HS6 := hide S6
    obtain ⟨⟨v0, v1, v2⟩, v3, v4, v5⟩ := six_rdr S6.bb
    obtain ⟨⟨t0, t1, t2⟩, t3, t4, t5⟩ := six_rdr S6.ba
    have HO := hide (S6.out3 (.int .i64 3) (.int .i64 n) (.string (strOf z4)))
    clear S5 S6 hz4 he4 hq4 hK3 h5 g5 HS4 H4 x0 x1 x2 x3 x4 x5 hr5
    go_wp2
    exact bodyPost_ret (v := .agg #[.int .i64 3, .int .i64 n, .string (strOf z4)]) (by simp [results, Tryd.results53, go_sem, *]) rfl (cellOut_mk (unhide HCR) (unhide HO))
  · have en : nameOf ⟨k, n, ByteArray.empty⟩ = .agg #[.string ByteArray.empty, .bool false] := by simp [nameOf, h3]
    rw [en]
    clear en
    have HCR : Hid (CellR er y p ⟨k, n, ByteArray.empty⟩ (p + (tkZ er y p 1).length + (tkZ (tkE er y p 1) y (p + (tkZ er y p 1).length) 3).length) (tkE (tkE er y p 1) y (p + (tkZ er y p 1).length) 3)) := by
      rw [unhide HN, unhide HK]
      exact cellR_plain hp (by rw [← unhide HK]; exact h3)
    have HO := hide (S3.out3 (.int .i64 k) (.int .i64 n) (.string ByteArray.empty))
    clear S3 HN HK hp1 hp2
    go_wp2
    exact bodyPost_ret (v := .agg #[.int .i64 k, .int .i64 n, .string ByteArray.empty]) (by simp [results, Tryd.results53, go_sem, *]) rfl (cellOut_mk (unhide HCR) (unhide HO))
end Go.Proofs.YtonpahhcfgdeoaaDoor

/- TrmCanon: the plain list; the walks of the model's l1Place and TrmCanon, and of the program's TrmCanon. -/
namespace Go.Proofs.YtonpahhcfgdeoaaDoor
open Go.RowKit Go.Maps
set_option linter.unusedVariables false
set_option linter.unusedSimpArgs false

/-- Where a number stands first among some; -1, if it does not. -/
def placeV : List Int → Int → Int
  | [], _ => -1
  | a :: r, x => if a = x then 0 else if placeV r x = -1 then -1 else placeV r x + 1

theorem placeV_ge (z : List Int) (x : Int) : -1 ≤ placeV z x := by
  induction z with
  | nil => simp [placeV]
  | cons a r ih => simp only [placeV]; split; omega; split <;> omega

theorem placeV_at : ∀ (z : List Int) (k : Nat) (h : k < z.length), (∀ j, (hj : j < z.length) → j < k → z[j] ≠ z[k]) → placeV z z[k] = k
  | a :: r, 0, h, _ => by simp [placeV]
  | a :: r, k + 1, h, hn => by
      have ih := placeV_at r k (by simpa using h) (fun j hj hjk => hn (j + 1) (by simp; omega) (by omega))
      have h0 : a ≠ r[k]'(by simpa using h) := hn 0 (by simp) (by omega)
      simp only [placeV, List.getElem_cons_succ, if_neg h0, ih]
      rw [if_neg (by omega)]; omega
theorem placeV_no : ∀ (z : List Int) (x : Int), x ∉ z → placeV z x = -1
  | [], x, _ => rfl
  | a :: r, x, h => by
      have ih := placeV_no r x (fun hm => h (List.mem_cons_of_mem _ hm))
      have h0 : a ≠ x := fun e => h (by simp [e])
      simp [placeV, h0, ih]

theorem placeV_first (z : List Int) (x : Int) (k : Nat) (h : k < z.length) (hx : z[k] = x) (hn : x ∉ z.take k) : placeV z x = k := by
  subst hx
  refine placeV_at z k h (fun j hj hjk e => hn ?_)
  rw [← e, List.mem_take_iff_getElem]
  exact ⟨j, by omega, rfl⟩

def canonC (z : List Int) (c : C) : C := if c.k = 1 then ⟨c.k, placeV z c.n, c.s⟩ else c
/-- Places with their variables numbered as they come first. -/
def canonOf (t : List C) : List C := t.map (canonC (freeOf t))

theorem canonC_var {z : List Int} {c : C} (h : c.k = 1) : canonC z c = ⟨c.k, placeV z c.n, c.s⟩ := by simp [canonC, h]
theorem canonC_other {z : List Int} {c : C} (h : c.k ≠ 1) : canonC z c = c := by simp [canonC, h]
theorem canonOf_length (t : List C) : (canonOf t).length = t.length := by simp [canonOf]

theorem map_step {t : List C} {k : Nat} (z : List Int) (h : k < t.length) : (t.take (k + 1)).map (canonC z) = (t.take k).map (canonC z) ++ [canonC z t[k]] := by
  rw [List.take_succ_eq_append_getElem h, List.map_append]; rfl

theorem mem_addV {acc : List Int} {c : C} {x : Int} : x ∈ addV acc c ↔ x ∈ acc ∨ (c.k = 1 ∧ x = c.n) := by
  unfold addV
  by_cases h : c.k = 1
  · rw [if_pos h]
    by_cases hn : c.n ∈ acc
    · rw [if_pos hn]
      constructor
      · exact .inl
      · rintro (h' | ⟨_, rfl⟩)
        · exact h'
        · exact hn
    · rw [if_neg hn]; simp [h]
  · rw [if_neg h]; simp [h]
theorem mem_fold : ∀ (t : List C) (acc : List Int) (x : Int), x ∈ t.foldl addV acc ↔ x ∈ acc ∨ ∃ c ∈ t, c.k = 1 ∧ x = c.n
  | [], acc, x => by simp
  | c :: t, acc, x => by
      rw [List.foldl_cons, mem_fold t, mem_addV]
      simp only [List.mem_cons, exists_eq_or_imp]
      exact or_assoc
theorem mem_freeOf (t : List C) (x : Int) : x ∈ freeOf t ↔ ∃ c ∈ t, c.k = 1 ∧ x = c.n := by
  unfold freeOf; rw [mem_fold]; simp

set_option maxHeartbeats 1000000 in
theorem l1Place_some (b off cap : Nat) (z : List Int) (n : Int) (w : World) (hm : z.length ≤ maxLen) (hA : AtI w b off z) :
    Calls Tryd.prog 63 #[.slice (some ⟨b, off, none⟩) z.length cap, .int .i64 n] w fun e w' => e = .returned (.int .i64 (placeV z n)) ∧ w' = w := by
  unfold maxLen at hm
  go_enter Tryd.func63, Tryd.ntmps63
  go_wp2
  go_loop [5] (fun i => ∃ (k : Nat), k ≤ z.length ∧ i = .int .i64 k ∧ n ∉ z.take k) (fun i => z.length - (intOf i).toNat)
  case atStart => exact ⟨0, Nat.zero_le _, rfl, by simp⟩
  case round =>
    obtain ⟨k, hk, rfl, hx⟩ := hrel
    have HX := hide hx
    clear hx
    by_cases hlt : k < z.length
    · have c0 := hA k hlt
      obtain ⟨c, hc⟩ : ∃ c, c = z[k] := ⟨_, rfl⟩
      rw [← hc] at c0
      have HC := hide hc
      clear hc
      by_cases he : c = n
      · have hb : (c == n) = true := by simpa using he
        have HE := hide he
        clear he
        go_wp2
        go_ret
        exact ⟨ret_int (placeV_first z n k hlt (by rw [← unhide HC, unhide HE]) (unhide HX)).symm, rfl⟩
      · have hb : (c == n) = false := by simpa using he
        have HE := hide he
        clear he
        go_wp2
        go_round
        case rel =>
          refine ⟨k + 1, by omega, by go_num, ?_⟩
          rw [List.take_succ_eq_append_getElem hlt, List.mem_append]
          rintro (h | h)
          · exact unhide HX h
          · simp at h
            exact unhide HE (by rw [unhide HC, h])
        case measure => simp [intOf]; omega
    · go_wp2
      go_ret
      refine ⟨ret_int ?_, rfl⟩
      have := unhide HX
      rw [List.take_of_length_le (by omega)] at this
      rw [placeV_no z n this]

set_option maxHeartbeats 400000 in
theorem l1Place_none (ao : Option Addr) (cap : Nat) (n : Int) (w : World) :
    Calls Tryd.prog 63 #[.slice ao 0 cap, .int .i64 n] w fun e w' => e = .returned (.int .i64 (-1)) ∧ w' = w := by
  go_enter Tryd.func63, Tryd.ntmps63
  go_wp2
  refine wp_loop_rounds 1 ?_
  rw [rounds_succ]
  go_wp2
  go_ret
  exact ⟨rfl, rfl⟩

theorem l1Place_any (ao : Option Addr) (cap : Nat) (z : List Int) (n : Int) (w : World) (hm : z.length ≤ maxLen) (hA : RowI w ao z) :
    Calls Tryd.prog 63 #[.slice ao z.length cap, .int .i64 n] w fun e w' => e = .returned (.int .i64 (placeV z n)) ∧ w' = w := by
  rcases hA with rfl | ⟨b, off, rfl, hA⟩
  · exact l1Place_none ao cap n w
  · exact l1Place_some b off cap z n w hm hA

/-- A place that was just laid in a block of its own. -/
theorem cell_three_new (w : World) (x y z : Value) (t : TypeId) : ∀ j u, [x, y, z][j]? = some u → (w.alloc (.cells #[x, y, z] t)).cell? ((⟨w.heap.size, 0, none⟩ : Addr).add j) = some u := by
  intro j u hj
  match j, hj with
  | 0, hj => simp at hj; subst hj; simp [Addr.add]
  | 1, hj => simp at hj; subst hj; simp [Addr.add]
  | 2, hj => simp at hj; subst hj; simp [Addr.add]

/-- What an append of one place leaves. -/
theorem app_cell {w wr w1 : World} {base : Nat} {v v' : Value} {t : List C} {c : C} (hB : Below w.heap.size w wr) (hb : w.heap.size ≤ base) (hown : OwnC wr base v t)
    (hown' : w1.ownsRow base 55 3 v' (t.length + 1) (flat t ++ [.int .i64 c.k, .int .i64 c.n, .string c.s])) (hgrow : (wr.alloc (.cells #[.int .i64 c.k, .int .i64 c.n, .string c.s] 55)).grownBy w1 v.ownBlock) :
    OwnC w1 base v' (t ++ [c]) ∧ Below w.heap.size w w1 := by
  constructor
  · unfold OwnC
    rw [show (t ++ [c]).length = t.length + 1 by simp, flat_append]
    exact hown'
  · exact (hB.alloc hB.size _).grown hgrow (by have := hB.size; simp; omega) (fun k e => Nat.le_trans hb (hown.lt k e).1)

theorem OwnC.base {w : World} {base base' : Nat} {v : Value} {t : List C} (h : OwnC w base v t) (hb : base' ≤ base) : OwnC w base' v t := by
  refine ⟨h.1, ?_⟩
  rcases h.2 with h2 | ⟨g, cap, cur, e, hg, r⟩
  · exact .inl h2
  · exact .inr ⟨g, cap, cur, e, Nat.le_trans hb hg, r⟩

theorem canon_done {w : World} {base base' : Nat} {v : Value} {t : List C} {z : List Int} (h : OwnC w base v (t.map (canonC z))) (hz : z = freeOf t) (hb : base' ≤ base) : OwnC w base' v (canonOf t) := by
  subst hz
  exact h.base hb

set_option maxHeartbeats 2000000 in
theorem specTrmCanon_some (b off cap : Nat) (t : List C) (w : World) (hm : t.length ≤ 1048576) (hA : At w b off t) :
    Calls Tryd.prog 49 #[.slice (some ⟨b, off, none⟩) t.length cap] w fun e w' => ∃ v, e = .returned v ∧ OwnC w' w.heap.size v (canonOf t) ∧ Below w.heap.size w w' := by
  obtain ⟨i0, hi, hz0, hz1, hz2⟩ := info_parts Tryd.infoCell
  have hfl := freeOf_len t
  go_enter Tryd.func49, Tryd.ntmps49
  go_wp2_with fail
  refine (specTrmFree_any _ _ t _ hm (.inr ⟨b, off, rfl, hA⟩)).mono ?_
  rintro e w0 ⟨v0, rfl, hv0, hb0⟩
  obtain ⟨z, hz⟩ : ∃ z, z = freeOf t := ⟨_, rfl⟩
  rw [← hz] at hv0 hfl
  have HZ := hide hz
  clear hz
  obtain ⟨ao0, cap0, rfl, _⟩ := hv0.shape
  go_wp2
  go_loopw [4, 5] (fun o i wr => ∃ (k : Nat), k ≤ t.length ∧ i = .int .i64 k ∧ OwnC wr w0.heap.size o ((t.take k).map (canonC z)) ∧ Below w0.heap.size w0 wr) (fun _ i _ => t.length - (intOf i).toNat)
  case atStart =>
    refine ⟨0, Nat.zero_le _, rfl, ?_, cell_below _ _⟩
    exact World.ownsRow_made w0 #[] 0 (Nat.le_refl _) (by simp [maxLen]) rfl
  case round =>
    obtain ⟨k, hk, rfl, hown, hB0⟩ := hrel
    have hB := bstep hb0 hB0
    by_cases hlt : k < t.length
    · obtain ⟨c0, c1, c2⟩ := (hA.below hB) k hlt
      have HS := hide (map_step z hlt)
      have hR := (hv0.below hB0).row
      obtain ⟨c, hc⟩ : ∃ c, c = t[k] := ⟨_, rfl⟩
      rw [← hc] at c0 c1 c2 HS
      clear hc
      have hyl : ((t.take k).map (canonC z)).length ≤ 1048576 := by simp; omega
      obtain ⟨y, hy⟩ : ∃ y, y = (t.take k).map (canonC z) := ⟨_, rfl⟩
      rw [← hy] at hown HS hyl
      clear hy
      obtain ⟨ao, cp, rfl, _⟩ := hown.shape
      by_cases hk1 : c.k = 1
      · have hb : (c.k == 1) = true := by simpa using hk1
        have HK := hide (canonC_var (z := z) hk1)
        clear hk1
        go_wp2_with (first | (go_at_call 63; refine (l1Place_any ao0 cap0 z c.n _ (by unfold maxLen; omega) (hR.below (cell_below _ _))).mono ?_; rintro e w1 ⟨rfl, rfl⟩) | (at_builtin; refine wpList_append_own _ rfl _ _ 23 rfl w0.heap.size 55 i0 _ 3 32 Tryd.underlying23 hi hz0 hz1 hz2 rfl (by decide) _ _ _ rfl (World.ownsRow.alloc (World.ownsRow.alloc hown _) _) ⟨wr.heap.size + 1, 0, none⟩ 1 1 [.int .i64 c.k, .int .i64 (placeV z c.n), .string c.s] rfl rfl ?c1 ?c2 ?c3 ?c4 ?c5 ?_))
        case c1 =>
          intro j u hj
          have := cell_three_new (wr.alloc (.cells #[.int .i64 c.k, .int .i64 (placeV z c.n), .string c.s] 55)) _ _ _ 55 j u hj
          rw [World.size_alloc] at this
          exact this
        case c2 => intro u hu; simp at hu; rcases hu with rfl | rfl | rfl <;> rfl
        case c3 => unfold maxLen; omega
        case c4 => omega
        case c5 => have := hB0.size; simp; omega
        · intro v' w2 hown' hgrow _
          have R := app_cell (c := ⟨c.k, placeV z c.n, c.s⟩) (hB0.alloc hB0.size _) (Nat.le_refl _) (World.ownsRow.alloc hown _) hown' hgrow
          clear hown' hgrow hown c0 c1 c2 hR
          go_wp2
          go_roundw
          case rel => exact ⟨k + 1, by omega, by go_num, by rw [unhide HS, unhide HK]; exact R.1, R.2⟩
          case measure => simp [intOf]; omega
      · have hb : (c.k == 1) = false := by simpa using hk1
        have HK := hide (canonC_other (z := z) hk1)
        clear hk1
        go_wp2_with (at_builtin; refine wpList_append_own _ rfl _ _ 23 rfl w0.heap.size 55 i0 _ 3 32 Tryd.underlying23 hi hz0 hz1 hz2 rfl (by decide) _ _ _ rfl (World.ownsRow.alloc (World.ownsRow.alloc hown _) _) ⟨wr.heap.size + 1, 0, none⟩ 1 1 [.int .i64 c.k, .int .i64 c.n, .string c.s] rfl rfl ?d1 ?d2 ?d3 ?d4 ?d5 ?_)
        case d1 =>
          intro j u hj
          have := cell_three_new (wr.alloc (.cells #[.int .i64 c.k, .int .i64 c.n, .string c.s] 55)) _ _ _ 55 j u hj
          rw [World.size_alloc] at this
          exact this
        case d2 => intro u hu; simp at hu; rcases hu with rfl | rfl | rfl <;> rfl
        case d3 => unfold maxLen; omega
        case d4 => omega
        case d5 => have := hB0.size; simp; omega
        · intro v' w2 hown' hgrow _
          have R := app_cell (c := c) (hB0.alloc hB0.size _) (Nat.le_refl _) (World.ownsRow.alloc hown _) hown' hgrow
          clear hown' hgrow hown c0 c1 c2 hR
          go_wp2
          go_roundw
          case rel => exact ⟨k + 1, by omega, by go_num, by rw [unhide HS, unhide HK]; exact R.1, R.2⟩
          case measure => simp [intOf]; omega
    · rw [List.take_of_length_le (by omega)] at hown
      have hO := canon_done hown (unhide HZ) hb0.size
      go_wp2
      go_ret
      exact ⟨_, rfl, hO, hB⟩

set_option maxHeartbeats 400000 in
theorem specTrmCanon_none (ao : Option Addr) (cap : Nat) (w : World) :
    Calls Tryd.prog 49 #[.slice ao 0 cap] w fun e w' => ∃ v, e = .returned v ∧ OwnC w' w.heap.size v (canonOf []) ∧ Below w.heap.size w w' := by
  go_enter Tryd.func49, Tryd.ntmps49
  go_wp2_with fail
  refine (specTrmFree_none _ _ _).mono ?_
  rintro e w0 ⟨v0, rfl, hv0, hb0⟩
  go_wp2
  refine wp_loop_rounds 1 ?_
  rw [rounds_succ]
  go_wp2
  go_ret
  have hO : OwnC (w0.alloc (.cells #[] 55)) w0.heap.size (.slice (some ⟨w0.heap.size, 0, none⟩) 0 0) (canonOf []) := World.ownsRow_made w0 #[] 0 (Nat.le_refl _) (by simp [maxLen]) rfl
  exact ⟨_, rfl, hO.base hb0.size, bstep hb0 (cell_below _ _)⟩

/-- The model's TrmCanon, of whatever places. -/
theorem specTrmCanon_any (ao : Option Addr) (cap : Nat) (t : List C) (w : World) (hm : t.length ≤ 1048576) (hA : Row w ao t) :
    Calls Tryd.prog 49 #[.slice ao t.length cap] w fun e w' => ∃ v, e = .returned v ∧ OwnC w' w.heap.size v (canonOf t) ∧ Below w.heap.size w w' := by
  rcases hA with rfl | ⟨b, off, rfl, hA⟩
  · exact specTrmCanon_none ao cap w
  · exact specTrmCanon_some b off cap t w hm hA
end Go.Proofs.YtonpahhcfgdeoaaDoor
