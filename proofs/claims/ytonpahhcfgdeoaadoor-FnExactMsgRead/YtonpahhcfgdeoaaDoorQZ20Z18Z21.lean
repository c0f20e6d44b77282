import Derived.Test.YtonpahhcfgdeoaaDoorQYG3Z19
import Derived.Test.YtonpahhcfgdeoaaDoorQZ8Z13Z14
/- Messages out of bytes: the program's MsgRead. -/
namespace Go.Proofs.YtonpahhcfgdeoaaDoor
open Go.RowKit
set_option linter.unusedVariables false
set_option linter.unusedSimpArgs false

/-- While a frame is read: what stays. -/
structure RS (w : World) (ao : Option Addr) (b off cap : Nat) (y : List Int) (p : Nat) (er : Bool) (U : World) : Prop where
  gr : w.grownBy U (some w.heap.size)
  rd : Rdr U w.heap.size ao cap y p er
  at_ : AtY U b off y
  gl : Gl U
  g2 : Gl2 U
  r4 : 4 < w.heap.size
  bl : b < w.heap.size
theorem RS.step {w : World} {ao : Option Addr} {b off cap : Nat} {y : List Int} {p p' : Nat} {er er' : Bool} {U U' : World} (h : RS w ao b off cap y p er U) (hg : U.grownBy U' (some w.heap.size)) (hr : Rdr U' w.heap.size ao cap y p' er') : RS w ao b off cap y p' er' U' := by
  have hb := h.bl
  exact ⟨grown_trans h.gr hg, hr, atY_grown h.at_ hg (fun k e => by simp at e; omega), h.gl.err hg h.r4, h.g2.grown hg (fun k e => by simp at e; have := h.r4; omega), h.r4, h.bl⟩
theorem RS.alloc {w : World} {ao : Option Addr} {b off cap : Nat} {y : List Int} {p : Nat} {er : Bool} {U : World} (h : RS w ao b off cap y p er U) (o : Obj) : RS w ao b off cap y p er (U.alloc o) := h.step (grown_below (cell_below _ _)) (h.rd.below (cell_below _ _))
theorem RS.below {w : World} {ao : Option Addr} {b off cap : Nat} {y : List Int} {p : Nat} {er : Bool} {U : World} (h : RS w ao b off cap y p er U) : Below w.heap.size w U :=
  ⟨h.gr.os, h.gr.tape, h.gr.output, h.gr.size, fun i hi => h.gr.block i hi (fun e => by simp at e; omega)⟩

abbrev zeroM : Obj := Obj.cells #[Value.int IntKind.i64 0, Value.int IntKind.i64 0, Value.slice none 0 0, Value.int IntKind.i64 0, Value.int IntKind.i64 0, Value.slice none 0 0] 27
theorem below_set6 {B : Nat} {w W : World} (h : Below B w W) {k : Nat} (hk : B ≤ k) (a0 a1 a2 a3 a4 a5 : Value) : Below B w (set6 W k a0 a1 a2 a3 a4 a5) :=
  ((((((h.setCell (p := ⟨k, 0, none⟩) hk _).setCell (p := ⟨k, 1, none⟩) hk _).setCell (p := ⟨k, 2, none⟩) hk _).setCell (p := ⟨k, 3, none⟩) hk _).setCell (p := ⟨k, 4, none⟩) hk _).setCell (p := ⟨k, 5, none⟩) hk _)
/-- What MsgRead comes to, its result's block being the first that it makes. -/
theorem got_no {w W : World} {D : Option MsgT} (h : D = none) (hB : Below w.heap.size w W) : GotM w D (.returned (.tuple #[.agg #[.int .i64 0, .int .i64 0, .slice none 0 0, .int .i64 0, .int .i64 0, .slice none 0 0], .bool false])) (set6 W w.heap.size (.int .i64 0) (.int .i64 0) (.slice none 0 0) (.int .i64 0) (.int .i64 0) (.slice none 0 0)) :=
  gotM_no h (below_set6 hB (Nat.le_refl _) _ _ _ _ _ _)
theorem got_yes {w W : World} {D : Option MsgT} {k f n st : Int} {t u : List C} {v5 v6 : Value} (h : D = some (k, f, n, st, t, u)) (h5 : OwnC W (w.heap.size + 1) v5 t) (h6 : OwnC W (w.heap.size + 1) v6 u) (ha : Apt v5 v6) (hB : Below w.heap.size w W) :
    GotM w D (.returned (.tuple #[.agg #[.int .i64 k, .int .i64 f, v5, .int .i64 n, .int .i64 st, v6], .bool true])) (set6 W w.heap.size (.int .i64 k) (.int .i64 f) v5 (.int .i64 n) (.int .i64 st) v6) := by
  have hg := set6_grown W w.heap.size (.int .i64 k) (.int .i64 f) v5 (.int .i64 n) (.int .i64 st) v6
  have o1 := own_apart h5 hg (fun j e => .inl (by simp at e; omega))
  have o2 := own_apart h6 hg (fun j e => .inl (by simp at e; omega))
  exact gotM_yes h (own_lo o1 (fun j e => by have := (World.ownsRow.lt o1 j e).1; omega)) (own_lo o2 (fun j e => by have := (World.ownsRow.lt o2 j e).1; omega)) ha (below_set6 hB (Nat.le_refl _) _ _ _ _ _ _)

set_option maxRecDepth 100000 in
set_option maxHeartbeats 4000000 in
theorem implMsgRead_any (ao : Option Addr) (cap : Nat) (y : List Int) (D : Option MsgT) (w : World) (hA0 : RowY w ao y) (hy : ByL y) (hG0 : Gl w) (hG20 : Gl2 w) (hD : RdD y D) (hl : y.length ≤ 1048576) (hc : y.length ≤ cap) :
    Calls Tryd.prog 6 #[.slice ao y.length cap] w (GotM w D) := by
  have h40 : 4 < w.heap.size := by
    obtain ⟨T, u, g⟩ := hG0 4 (by decide)
    exact World.block_lt_of_cell? w ⟨4, 0, none⟩ g
  obtain ⟨w0, hw0⟩ : ∃ w0, w0 = w.alloc zeroM := ⟨_, rfl⟩
  have hb00 : Below w.heap.size w w0 := by rw [hw0]; exact cell_below _ _
  have hX : w0.heap[w.heap.size]? = some (.cells #[Value.int IntKind.i64 0, Value.int IntKind.i64 0, Value.slice none 0 0, Value.int IntKind.i64 0, Value.int IntKind.i64 0, Value.slice none 0 0] 27 (0, 0)) := by rw [hw0]; exact heap_alloc_new w _
  have hs0 : w0.heap.size = w.heap.size + 1 := by rw [hw0]; simp
  have h4 : 4 < w0.heap.size := by omega
  have hA := hA0.below hb00
  have hG : Gl w0 := hG0.grown (r := none) (grown_below hb00) (fun k e => by cases e)
  have hG2 : Gl2 w0 := hG20.grown (r := none) (grown_below hb00) (fun k e => by cases e)
  have hb : ∃ b off, (y = [] ∨ ao = some ⟨b, off, none⟩) ∧ AtY w0 b off y ∧ b < w0.heap.size := by
    rcases hA with rfl | ⟨b, off, rfl, hA⟩
    · exact ⟨0, 0, .inl rfl, fun i hi => by simp at hi, by omega⟩
    · by_cases h0 : 0 < y.length
      · exact ⟨b, off, .inr rfl, hA, hA.lt h0⟩
      · have : y = [] := List.length_eq_zero_iff.1 (by omega)
        exact ⟨0, 0, .inl this, fun i hi => by omega, by omega⟩
  obtain ⟨b, off, hao, hAt, hbl⟩ := hb
  obtain ⟨W, hW⟩ : ∃ W, W = w0.alloc (Obj.cells #[Value.slice ao y.length cap, Value.int IntKind.i64 0, Value.nilIface] 47) := ⟨_, rfl⟩
  have hB0 : Below w0.heap.size w0 W := by rw [hW]; exact cell_below _ _
  have hRd : Rdr W w0.heap.size ao cap y 0 false := by rw [hW]; exact ⟨.nilIface, heap_alloc_new w0 _, rfl⟩
  have S0 : RS w0 ao b off cap y 0 false W := ⟨grown_below hB0, hRd, hAt.below hB0, hG.err (grown_below hB0) h4, hG2.grown (grown_below hB0 (row := some w0.heap.size)) (fun k e => by simp at e; omega), h4, hbl⟩
  have HO := hide (openFrame_any ao w0.heap.size b off cap y W hRd hao S0.at_ hy (by omega) S0.gl S0.g2 h4 hl hc)
  have HM := hide (fun (U : World) (p : Nat) (er : Bool) (hS : RS w0 ao b off cap y p er U) (hp : p ≤ y.length) => message_any ao w0.heap.size b off cap y p er U hS.rd hao hS.at_ hy (by omega) (by have := hS.gr.size; omega) hS.gl h4 hp hl hc)
  have HC := hide (fun (U : World) (p : Nat) (er : Bool) (hS : RS w0 ao b off cap y p er U) (hp : p ≤ y.length) => closeFrame_any ao w0.heap.size b off cap y p er U hS.rd hao hS.at_ hy (by omega) hS.gl hS.g2 h4 hp hl hc)
  have HD := hide hD
  have HY := hide hy
  have hp1 : (tkZ false y 0 2).length ≤ y.length := by have := tkZ_place false y 0 2 (by omega); omega
  obtain ⟨p1, hp1e⟩ : ∃ p1, p1 = (tkZ false y 0 2).length := ⟨_, rfl⟩
  obtain ⟨e1, he1⟩ : ∃ e1, e1 = opE y := ⟨_, rfl⟩
  have HE := hide (fun (k f n st : Int) (t u : List C) (p' : Nat) (er' : Bool) (hp : p' ≤ y.length) (hm : MR e1 y p1 k f n st t u p' er') => msg_end (unhide HY) hp (by rw [hp1e, he1] at hm; exact hm))
  rw [← hp1e, ← he1] at HO
  rw [← hp1e] at hp1
  have HS0 := hide S0
  rw [hs0] at HO HM HC
  have HX := hide (And.intro hb00 hX)
  clear hRd hAt hB0 hA hG hG2 hA0 hG0 hG20 hD hy S0 hp1e he1 hX hb00
  rw [hw0] at hW
  go_enter Tryd.func6, Tryd.ntmps6
  go_wp2_with fail
  rw [← hW]
  clear hW hw0
  refine (unhide HO).mono ?_
  rintro e w1 ⟨⟨v, rfl⟩, h1, g1⟩
  rw [← hs0] at h1 g1
  have HS1 := hide ((unhide HS0).step g1 h1)
  clear h1 g1 HO HS0
  have H1 := hide (unhide HM w1 p1 e1 (unhide HS1) hp1)
  go_wp2_with fail
  refine (unhide H1).mono ?_
  rintro e w2 ⟨k, f, n, st, v5, v6, t, u, p', er', rfl, o5, o6, hp', h2, g2, hmr, hap⟩
  rw [← hs0] at h2 g2
  obtain ⟨xa, xc, rfl, _⟩ := o5.shape
  obtain ⟨ya, yc, rfl, _⟩ := o6.shape
  obtain ⟨V, hV⟩ : ∃ V, V = w2.alloc (Obj.cells #[Value.int IntKind.i64 k, Value.int IntKind.i64 f, Value.slice xa t.length xc, Value.int IntKind.i64 n, Value.int IntKind.i64 st, Value.slice ya u.length yc] 27) := ⟨_, rfl⟩
  have hbV : Below w2.heap.size w2 V := by rw [hV]; exact cell_below _ _
  have hM : V.heap[w2.heap.size]? = some (.cells #[Value.int IntKind.i64 k, Value.int IntKind.i64 f, Value.slice xa t.length xc, Value.int IntKind.i64 n, Value.int IntKind.i64 st, Value.slice ya u.length yc] 27 (0, 0)) := by rw [hV]; exact heap_alloc_new w2 _
  have HS2 := hide (show RS w0 ao b off cap y p' er' V from by rw [hV]; exact ((unhide HS1).step g2 h2).alloc _)
  have HV := hide (And.intro (o5.below hbV) (And.intro (o6.below hbV) (And.intro hap (And.intro (unhide HE k f n st t u p' er' hp' hmr) hM))))
  have H2 := hide (unhide HC V p' er' (unhide HS2) hp')
  have hs1 := (unhide HS1).rd.lt
  have hs2 : w1.heap.size ≤ w2.heap.size := g2.size
  have hsV : w2.heap.size < V.heap.size := blk_lt hM
  clear HM HC HE h2 g2 hmr hap o5 o6 H1 HS1 hbV hM
  go_wp2_with fail
  rw [← hV]
  clear hV
  refine (unhide H2).mono ?_
  rintro e w3 ⟨⟨v, rfl⟩, h3, g3⟩
  rw [← hs0] at h3 g3
  have S3 := (unhide HS2).step g3 h3
  obtain ⟨o5, o6, hap, hend, hM⟩ := unhide HV
  have o5' : OwnC w3 w1.heap.size (.slice xa t.length xc) t := own_apart o5 g3 (fun j e => .inl (by simp at e; omega))
  have o6' : OwnC w3 w1.heap.size (.slice ya u.length yc) u := own_apart o6 g3 (fun j e => .inl (by simp at e; omega))
  have hM3 := (g3.block w2.heap.size hsV (fun e => by simp at e; omega)).trans hM
  have hb03 := S3.below
  have hB3 := bstep (unhide HX).1 hb03
  have hX3 := blk_below (unhide HX).2 hb03
  obtain ⟨x0, x1, x2, x3, x4, x5⟩ := six_cells hX3
  obtain ⟨f0, f1, f2, f3, f4, f5⟩ := six_frozen hX3
  generalize w2.heap.size = M at hM3 ⊢
  clear H2 HS2 HV g3 S3 o5 o6 hM
  rcases hend with ⟨hcl, hno⟩ | ⟨hcl, hyes⟩
  · rw [hcl] at h3
    obtain ⟨ev, hb2, T', u', rfl⟩ := h3
    obtain ⟨c0, c1, c2, _, _⟩ := three_rdr hb2
    rw [hs0] at c0 c1 c2
    have HF := hide (got_no ((unhide HD).no hno) hB3)
    clear hb2 hno hcl hap o5' o6' HX hB3 hX3 hM3 hb03
    go_wp2
    exact bodyPost_ret (v := .tuple #[.agg #[.int .i64 0, .int .i64 0, .slice none 0 0, .int .i64 0, .int .i64 0, .slice none 0 0], .bool false]) (by simp [results, Tryd.results6, go_sem, *]) rfl (unhide HF)
  · rw [hcl] at h3
    obtain ⟨ev, hb2, he⟩ := h3
    have he' : ev = .nilIface := he
    subst he'
    obtain ⟨c0, c1, c2, _, _⟩ := three_rdr hb2
    rw [hs0] at c0 c1 c2
    obtain ⟨ht, hu⟩ := rdF_trm hyes
    obtain ⟨oT, _⟩ := outM_own o5' (.inr ht)
    obtain ⟨oU, _⟩ := outM_own o6' hu
    obtain ⟨r, hr, hDe⟩ := (unhide HD).yes hyes
    have HK := hide (show ∀ W : World, Below w3.heap.size w3 W → Calls Tryd.prog 19 #[.agg #[.int .i64 k, .int .i64 f, .slice xa t.length xc, .int .i64 n, .int .i64 st, .slice ya u.length yc]] W fun e w' => e = .returned (.bool (msgB k f n st t u r)) ∧ Below W.heap.size W w' from fun W hW => implMsgOk_any k f n st xa ya xc yc t u r W (oT.below hW) (oU.below hW) hr)
    have HO := hide (And.intro o5' (And.intro o6' (And.intro hap (And.intro hB3 (And.intro hX3 hM3)))))
    obtain ⟨m0, m1, m2, m3, m4, m5⟩ := six_cells hM3
    obtain ⟨B, hBe⟩ : ∃ B, B = msgB k f n st t u r := ⟨_, rfl⟩
    rw [← hBe] at HK hDe
    have HDe := hide hDe
    clear hb2 hcl o5' o6' hap hyes ht hu oT oU hr hDe hBe hB3 HX hX3 hM3 hb03 x0 x1 x2 x3 x4 x5 f0 f1 f2 f3 f4 f5
    go_wp2_with fail
    refine (unhide HK _ (Below.refl _ _)).mono ?_
    rintro e w4 ⟨rfl, hb4⟩
    obtain ⟨o5', o6', hap, hB3, hX3, hM3⟩ := unhide HO
    have hB4 := bstep hB3 hb4
    have hX4 := blk_below hX3 hb4
    have hM4 := blk_below hM3 hb4
    obtain ⟨x0, x1, x2, x3, x4, x5⟩ := six_cells hX4
    obtain ⟨f0, f1, f2, f3, f4, f5⟩ := six_frozen hX4
    clear m0 m1 m2 m3 m4 m5
    obtain ⟨m0, m1, m2, m3, m4, m5⟩ := six_cells hM4
    have p5 := own_lo (base' := w.heap.size + 1) (o5'.below hb4) (fun j e => by have := (World.ownsRow.lt (o5'.below hb4) j e).1; omega)
    have p6 := own_lo (base' := w.heap.size + 1) (o6'.below hb4) (fun j e => by have := (World.ownsRow.lt (o6'.below hb4) j e).1; omega)
    cases B with
    | false =>
      have HF := hide (got_no (unhide HDe) hB4)
      clear HO o5' o6' hap hB3 hB4 p5 p6 hb4 HK hX3 hX4 hM3 hM4
      go_wp2
      exact bodyPost_ret (v := .tuple #[.agg #[.int .i64 0, .int .i64 0, .slice none 0 0, .int .i64 0, .int .i64 0, .slice none 0 0], .bool false]) (by simp [results, Tryd.results6, go_sem, *]) rfl (unhide HF)
    | true =>
      have HF := hide (got_yes (unhide HDe) p5 p6 hap hB4)
      clear HO o5' o6' hap hB3 hB4 p5 p6 hb4 HK hX3 hX4 hM3 hM4
      go_wp2
      exact bodyPost_ret (v := .tuple #[.agg #[.int .i64 k, .int .i64 f, .slice xa t.length xc, .int .i64 n, .int .i64 st, .slice ya u.length yc], .bool true]) (by simp [results, Tryd.results6, go_sem, *]) rfl (unhide HF)
end Go.Proofs.YtonpahhcfgdeoaaDoor

/- The specification: a term out of bytes, from a place on. -/
namespace Go.Proofs.YtonpahhcfgdeoaaDoor
open Go.RowKit
set_option linter.unusedVariables false
set_option linter.unusedSimpArgs false
attribute [-go_sem] Go.Builtin.append_

/-- What the reading of a term from a place on comes to. -/
def TermSP (w : World) (y : List Int) (p : Nat) (e : Ending) (w' : World) : Prop :=
  ∃ (v : Value) (ts : List C) (q : Int), e = .returned (.tuple #[v, .int .i64 q]) ∧ OwnC w' w.heap.size v ts ∧
    ((q = -1 ∧ ts = [] ∧ rdT (y.drop p) = none) ∨ ∃ q' : Nat, q = q' ∧ q' ≤ y.length ∧ rdT (y.drop p) = some (ts, y.drop q')) ∧ Below w.heap.size w w'
theorem termSP_no {w w' : World} {y : List Int} {p : Nat} {v : Value} (h : rdT (y.drop p) = none) (hO : OwnC w' w.heap.size v []) (hB : Below w.heap.size w w') : TermSP w y p (.returned (.tuple #[v, .int .i64 (-1)])) w' := ⟨v, [], -1, rfl, hO, .inl ⟨rfl, rfl, h⟩, hB⟩
theorem termSP_yes {w w' : World} {y : List Int} {p : Nat} {v : Value} {ts : List C} {q : Nat} (h : rdT (y.drop p) = some (ts, y.drop q)) (hq : q ≤ y.length) (hO : OwnC w' w.heap.size v ts) (hB : Below w.heap.size w w') : TermSP w y p (.returned (.tuple #[v, .int .i64 q])) w' := ⟨v, ts, q, rfl, hO, .inr ⟨q, rfl, hq, h⟩, hB⟩

set_option maxRecDepth 100000 in
set_option maxHeartbeats 1000000 in
theorem l6TermAt_end (ao : Option Addr) (cap p : Nat) (y : List Int) (w : World) (hp : p = y.length) (hl : y.length ≤ 1048576) :
    Calls Tryd.prog 14 #[.slice ao y.length cap, .int .i64 p] w (TermSP w y p) := by
  have HF := hide (termSP_no (y := y) (p := p) (by rw [hp]; simp [rdT]) (made_below w w (Below.refl _ _)).1 (made_below w w (Below.refl _ _)).2)
  subst hp
  go_enter Tryd.func14, Tryd.ntmps14
  go_wp2
  exact bodyPost_ret (v := .tuple #[.slice (some ⟨w.heap.size, 0, none⟩) 0 0, .int .i64 (-1)]) (by simp [results, Tryd.results14, go_sem]) rfl (unhide HF)

set_option maxRecDepth 100000 in
set_option maxHeartbeats 4000000 in
theorem l6TermAt_some (b off cap p : Nat) (y : List Int) (w : World) (hA : AtY w b off y) (hy : ByL y) (hp0 : p < y.length) (hl : y.length ≤ 1048576) (hc : y.length ≤ cap) :
    Calls Tryd.prog 14 #[.slice (some ⟨b, off, none⟩) y.length cap, .int .i64 p] w (TermSP w y p) := by
  have hbl : b < w.heap.size := hA.lt (by omega)
  have d0 := hA p hp0
  have b0 := hy.get p hp0
  have hcons : y.drop p = y[p]'hp0 :: y.drop (p + 1) := List.drop_eq_getElem_cons hp0
  obtain ⟨N0, hN0⟩ : ∃ N0, N0 = y[p]'hp0 := ⟨_, rfl⟩
  rw [← hN0] at d0 b0 hcons
  clear hN0
  obtain ⟨N, rfl⟩ := Int.eq_ofNat_of_zero_le b0.1
  have hN2 : N ≤ 255 := by omega
  have HRd : Hid (∀ ts r', rdN N (y.drop (p + 1)) = some (ts, r') → rdT (y.drop p) = if trm ts then some (ts, r') else none) := by
    intro ts r' h
    rw [hcons]
    simp [rdT, h]
  have HRn : Hid (rdN N (y.drop (p + 1)) = none → rdT (y.drop p) = none) := by
    intro h
    rw [hcons]
    simp [rdT, h]
  have HA := hide hA
  have HY := hide hy
  have hB1 := made_below w w (Below.refl _ _)
  have HM := hide hB1
  clear hA hy hcons hB1
  go_enter Tryd.func14, Tryd.ntmps14
  go_wp2
  rw [show decide (y.length ≤ p) = false by simp; omega]
  go_loopw [6, 7, 8] (fun tv pv i wr => ∃ (j q0 : Nat) (ts : List C), j ≤ N ∧ i = .int .i64 ((N : Int) - j) ∧ pv = .int .i64 q0 ∧ q0 ≤ y.length ∧ OwnC wr w.heap.size tv ts ∧ ts.length = j ∧ (∀ c ∈ ts, c.s.size ≤ 255) ∧ rdN j (y.drop (p + 1)) = some (ts, y.drop q0) ∧ Below w.heap.size w wr) (fun _ _ i _ => (intOf i).toNat)
  case atStart => exact ⟨0, p + 1, [], Nat.zero_le _, by simp, by go_num, hp0, (unhide HM).1, rfl, fun c hcc => (by cases hcc), rfl, (unhide HM).2⟩
  case round =>
    obtain ⟨j, q0, ts, hj, rfl, rfl, hq0, hown, hlen, h255, hrd, hB⟩ := hrel
    have hlen2 : ts.length ≤ 255 := by omega
    have HE := hide (And.intro hlen (And.intro h255 hrd))
    clear hlen h255 hrd
    by_cases hjl : j < N
    · have HC := hide (l6Cell_any b off cap y q0 wr ((unhide HA).below hB) (unhide HY) hq0 hl hc)
      have HO := hide (And.intro hown hB)
      clear hown hB
      go_wp2_with fail
      refine (unhide HC).mono ?_
      rintro e w2 ⟨c, q, rfl, hq, hb2⟩
      obtain ⟨hown, hB⟩ := unhide HO
      obtain ⟨hlen, h255, hrd⟩ := unhide HE
      have hown2 := hown.below hb2
      have hB2 := bstep hB hb2
      clear hown hB hb2
      rcases hq with ⟨rfl, hn⟩ | ⟨q', rfl, hpq, hqy, hcs, hsm⟩
      · have hfin := unhide HRn (rdN_none (n := j + 1) (by rw [rdN_snoc, hrd]; simp [hn]) (by omega))
        have hm := made_below w (w2.alloc (Obj.cells #[Value.int IntKind.i64 c.k, Value.int IntKind.i64 c.n, Value.string c.s] 55)) (bstep hB2 (cell_below _ _))
        rw [World.size_alloc] at hm
        have HF := hide (termSP_no hfin hm.1 hm.2)
        clear hfin hm hown2 hB2 hn HE HO HC hlen h255 hrd
        go_wp2
        exact bodyPost_ret (v := .tuple #[.slice (some ⟨w2.heap.size + 1, 0, none⟩) 0 0, .int .i64 (-1)]) (by simp [results, Tryd.results14, go_sem]) rfl (unhide HF)
      · have hs2 : w.heap.size ≤ w2.heap.size := hB2.size
        obtain ⟨v', w3, hr, ho, hgr⟩ := app_oneC (w2.alloc (Obj.cells #[Value.int IntKind.i64 c.k, Value.int IntKind.i64 c.n, Value.string c.s] 55)) w.heap.size u6 ts c (World.ownsRow.alloc hown2 _) (by simp; omega) (by omega)
        have hB3 := hgr.below (World.ownsRow.alloc hown2 _) (by simp; omega)
        rw [World.size_alloc] at hr
        have HF := hide (show OwnC w3 w.heap.size v' (ts ++ [c]) ∧ (ts ++ [c]).length = j + 1 ∧ (∀ x ∈ ts ++ [c], x.s.size ≤ 255) ∧ rdN (j + 1) (y.drop (p + 1)) = some (ts ++ [c], y.drop q') ∧ Below w.heap.size w w3 from by
          refine ⟨ho, by simp [hlen], ?_, by rw [rdN_snoc, hrd]; simp [hsm], ?_⟩
          · intro x hx
            rcases List.mem_append.1 hx with hx | hx
            · exact h255 x hx
            · simp at hx; subst hx; exact hcs
          · exact (bstep hB2 (cell_below _ _)).trans hB3)
        clear ho hgr hown2 hB2 hsm hcs HE HO HC hlen h255 hrd hB3
        go_wp2
        go_roundw
        case rel => exact ⟨j + 1, q', ts ++ [c], by omega, by go_num, rfl, hqy, (unhide HF).1, (unhide HF).2.1, (unhide HF).2.2.1, (unhide HF).2.2.2.1, (unhide HF).2.2.2.2⟩
        case measure => simp [intOf]; omega
    · have hjn : j = N := by omega
      subst hjn
      obtain ⟨ao', cap', rfl, hrow⟩ := hown.shape
      have HTO := hide (specTrmOk_any ao' cap' ts wr (by unfold maxLen; omega) hrow (fun c hcc => by have := (unhide HE).2.1 c hcc; unfold maxLen; omega))
      have HO := hide (And.intro hown hB)
      clear hown hB hrow
      cases ht : trm ts with
      | true =>
        rw [ht] at HTO
        have hfin : rdT (y.drop p) = some (ts, y.drop q0) := by rw [unhide HRd ts _ (unhide HE).2.2, ht]; rfl
        have hfin := hide hfin
        go_wp2_with fail
        refine (unhide HTO).mono ?_
        rintro e w2 ⟨rfl, hb2⟩
        have HF := hide (termSP_yes (unhide hfin) hq0 ((unhide HO).1.below hb2) (bstep (unhide HO).2 hb2))
        clear hb2 HO HE
        go_wp2
        exact bodyPost_ret (v := .tuple #[.slice ao' ts.length cap', .int .i64 (q0 : Int)]) (by simp [results, Tryd.results14, go_sem]) rfl (unhide HF)
      | false =>
        rw [ht] at HTO
        have hfin : rdT (y.drop p) = none := by rw [unhide HRd ts _ (unhide HE).2.2, ht]; rfl
        have hfin := hide hfin
        go_wp2_with fail
        refine (unhide HTO).mono ?_
        rintro e w2 ⟨rfl, hb2⟩
        have hm := made_below w w2 (bstep (unhide HO).2 hb2)
        have HF := hide (termSP_no (unhide hfin) hm.1 hm.2)
        clear hm hb2 HO HE
        go_wp2
        exact bodyPost_ret (v := .tuple #[.slice (some ⟨w2.heap.size, 0, none⟩) 0 0, .int .i64 (-1)]) (by simp [results, Tryd.results14, go_sem]) rfl (unhide HF)

theorem l6TermAt_any (ao : Option Addr) (cap p : Nat) (y : List Int) (w : World) (hA : RowY w ao y) (hy : ByL y) (hp : p ≤ y.length) (hl : y.length ≤ 1048576) (hc : y.length ≤ cap) :
    Calls Tryd.prog 14 #[.slice ao y.length cap, .int .i64 p] w (TermSP w y p) := by
  by_cases h : p = y.length
  · exact l6TermAt_end ao cap p y w h hl
  · rcases hA with rfl | ⟨b, off, rfl, hA⟩
    · simp at hp; exact absurd (by simpa using hp) h
    · exact l6TermAt_some b off cap p y w hA hy (by omega) hl hc
end Go.Proofs.YtonpahhcfgdeoaaDoor

/- The specification: MsgRead, without memory. -/
namespace Go.Proofs.YtonpahhcfgdeoaaDoor
open Go.RowKit
set_option linter.unusedVariables false
set_option linter.unusedSimpArgs false

theorem bdy_parts {y z : List Int} (hy : ByL y) (h : bdy y = some z) : ByL z ∧ z.length ≤ 1100 := by
  unfold bdy at h
  split at h
  · rename_i hh
    simp only [Option.some.injEq] at h
    subst h
    exact ⟨(hy.drop 2).take _, by simp; omega⟩
  · cases h
theorem six_drop {z : List Int} (h : 6 ≤ z.length) : z = z[0]'(by omega) :: z[1]'(by omega) :: z[2]'(by omega) :: z[3]'(by omega) :: z[4]'(by omega) :: z[5]'(by omega) :: z.drop 6 := by
  obtain ⟨k, f, st, a, b, c, r, rfl⟩ := long6 h
  rfl
/-- The fields of a message, and what stands behind its number. -/
theorem rdM_six {z : List Int} {k f st a b c : Int} {r : List Int} (h : z = k :: f :: st :: a :: b :: c :: r) : rdM z = (match rdT r with
    | some (t, r1) => if st = 2 then (match rdT r1 with | some (u, r2) => some ((k, f, valN a b c, st, t, u), r2) | none => none) else some ((k, f, valN a b c, st, t, []), r1)
    | none => none) := by rw [h]; rfl
/-- A message behind which nothing is left. -/
def endM : Option (MsgT × List Int) → Option MsgT
  | some (m, []) => some m
  | _ => none
theorem rdF_of {y z : List Int} (hb : bdy y = some z) : rdF y = endM (rdM z) := by
  unfold rdF
  rw [hb]
  simp only
  rcases rdM z with _ | ⟨m, _ | ⟨a, l⟩⟩ <;> rfl
theorem rdF_short {y z : List Int} (hb : bdy y = some z) (h : z.length < 7) : rdF y = none := by
  rw [rdF_of hb]
  by_cases h6 : z.length < 6
  · rw [rdM_short h6]; rfl
  · obtain ⟨k, f, st, a, b, c, r, e⟩ := long6 (Y := z) (by omega)
    have hr : r = [] := by
      have := congrArg List.length e
      simp at this
      exact List.length_eq_zero_iff.1 (by omega)
    rw [rdM_six e, hr]
    simp [rdT, endM]
theorem rdF_noT {y z : List Int} {k f st a b c : Int} (hb : bdy y = some z) (h : z = k :: f :: st :: a :: b :: c :: z.drop 6) (hT : rdT (z.drop 6) = none) : rdF y = none := by
  rw [rdF_of hb, rdM_six h, hT]
  rfl
theorem drop_nil {z : List Int} {q : Nat} (hq : q ≤ z.length) (h : q ≠ z.length) : z.drop q ≠ [] := by
  intro e
  have := congrArg List.length e
  simp at this
  omega
theorem end_of {z : List Int} {q : Nat} {m : MsgT} (hq : q ≤ z.length) : endM (some (m, z.drop q)) = if q = z.length then some m else none := by
  by_cases h : q = z.length
  · rw [if_pos h, h, List.drop_length]; rfl
  · rw [if_neg h]
    have := drop_nil hq h
    cases hd : z.drop q with
    | nil => exact absurd hd this
    | cons a l => rfl
theorem rdF_one {y z : List Int} {k f st a b c : Int} {t : List C} {q : Nat} (hb : bdy y = some z) (h : z = k :: f :: st :: a :: b :: c :: z.drop 6) (hT : rdT (z.drop 6) = some (t, z.drop q)) (hq : q ≤ z.length) (h2 : st ≠ 2) :
    rdF y = if q = z.length then some (k, f, valN a b c, st, t, []) else none := by
  rw [rdF_of hb, rdM_six h, hT]
  simp only [if_neg h2]
  exact end_of hq
theorem rdF_noU {y z : List Int} {k f a b c : Int} {t : List C} {q : Nat} (hb : bdy y = some z) (h : z = k :: f :: 2 :: a :: b :: c :: z.drop 6) (hT : rdT (z.drop 6) = some (t, z.drop q)) (hU : rdT (z.drop q) = none) : rdF y = none := by
  rw [rdF_of hb, rdM_six h, hT]
  simp [hU, endM]
theorem rdF_two {y z : List Int} {k f a b c : Int} {t u : List C} {q q2 : Nat} (hb : bdy y = some z) (h : z = k :: f :: 2 :: a :: b :: c :: z.drop 6) (hT : rdT (z.drop 6) = some (t, z.drop q)) (hU : rdT (z.drop q) = some (u, z.drop q2)) (hq : q2 ≤ z.length) :
    rdF y = if q2 = z.length then some (k, f, valN a b c, 2, t, u) else none := by
  rw [rdF_of hb, rdM_six h, hT]
  simp only [if_true, hU]
  exact end_of hq
end Go.Proofs.YtonpahhcfgdeoaaDoor
