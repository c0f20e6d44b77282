import Derived.Test.YtonpahhcfgdeoaaQYG2
import Derived.Test.YtonpahhcfgdeoaaQW2W3W4W6SB2
import Derived.Test.YtonpahhcfgdeoaaQOpenW12PB5
import Derived.Test.YtonpahhcfgdeoaaQMemMem2Mem3W9W11
/- MsgOk of the program and of the specification. -/
namespace Go.Proofs.Ytonpahhcfgdeoaa
open Go.RowKit
set_option linter.unusedVariables false
set_option linter.unusedSimpArgs false

theorem fld_optInt (a b : Value) (w : World) : Sem.run Try.prog (Instr.field 74 (.agg #[a, b]) 1) w = .ok b w := by
  simp [Instr.field, asAgg, go_sem]
theorem fld_optOut (a b c : Value) (w : World) : Sem.run Try.prog (Instr.field 77 (.agg #[a, b, c]) 1) w = .ok c w := by
  simp [Instr.field, asAgg, go_sem]

set_option maxRecDepth 100000 in
set_option maxHeartbeats 2000000 in
theorem implMsgOk_any (k f n st : Int) (xa ya : Option Addr) (xc yc : Nat) (t u : List C) (r : Bool) (w : World) (hT : OutM w xa xc t) (hU : OutM w ya yc u) (hr : CanB t u r) :
    Calls Try.prog 18 #[mV k f n st xa ya t.length xc u.length yc] w fun e w' => e = .returned (.bool (msgB k f n st t u r)) ∧ Below w.heap.size w w' := by
  have HR := hide hr
  clear hr
  have hf1 := fld_optInt
  have hf2 := fld_optOut
  have hul := hU.len
  have HA := hide (fun (W : World) => askerOf_any k f n st xa ya xc yc t u W hul)
  have HTO := hide (fun (W : World) (hW : Below w.heap.size w W) => toldBy_any k f n st xa ya xc yc t u r W (hT.below hW) (hU.below hW) (unhide HR))
  obtain ⟨W, hW⟩ : ∃ W, W = w.alloc (Obj.cells #[Value.int IntKind.i64 k, Value.int IntKind.i64 f, Value.slice xa t.length xc, Value.int IntKind.i64 n, Value.int IntKind.i64 st, Value.slice ya u.length yc] 41) := ⟨_, rfl⟩
  have hB0 : Below w.heap.size w W := by rw [hW]; exact cell_below _ _
  have hX : W.heap[w.heap.size]? = some (.cells #[Value.int IntKind.i64 k, Value.int IntKind.i64 f, Value.slice xa t.length xc, Value.int IntKind.i64 n, Value.int IntKind.i64 st, Value.slice ya u.length yc] 41 (0, 0)) := by
    rw [hW]
    exact heap_alloc_new w _
  have hT2 := hT.below hB0
  have HQ := hide (questionOf_any xa xc t W hT2.cap1 hT2.cap2 hT2.len hT2.row hT2.fit hT2.wf)
  unfold mV at HA HTO ⊢
  clear hT hU hT2 HR hul
  go_enter Try.func18, Try.ntmps18
  go_wp2_with fail
  rw [← hW]
  clear hW
  refine (unhide HQ).mono ?_
  rintro e w1 ⟨hq, hb1⟩
  have hB1 := bstep hB0 hb1
  replace hX := blk_below hX hb1
  obtain ⟨x0, x1, x2, x3, x4, x5⟩ := six_cells hX
  clear HQ hB0 hb1
  rcases hq with ⟨hq, rfl⟩ | ⟨hq, p, rfl, _⟩
  · have HE : Hid (msgB k f n st t u r = false) := by show msgB k f n st t u r = false; simp [msgB, hq]
    clear hX HA HTO hq
    go_wp2
    go_ret
    exact ⟨ret_bool (unhide HE).symm, hB1⟩
  · by_cases h1 : n < 1
    · have HE : Hid (msgB k f n st t u r = false) := by show msgB k f n st t u r = false; simp [msgB]; omega
      clear hX HA HTO hq
      go_wp2
      go_ret
      exact ⟨ret_bool (unhide HE).symm, hB1⟩
    by_cases h2 : 12000 < n
    · have HE : Hid (msgB k f n st t u r = false) := by show msgB k f n st t u r = false; simp [msgB]; omega
      clear hX HA HTO hq
      go_wp2
      go_ret
      exact ⟨ret_bool (unhide HE).symm, hB1⟩
    have HE : Hid (msgB k f n st t u r = (askB k f st u || tellB k f st t u r)) := by
      show msgB k f n st t u r = (askB k f st u || tellB k f st t u r)
      have e1 : decide (1 ≤ n) = true := by simp; omega
      have e2 : decide (n ≤ 12000) = true := by simp; omega
      simp [msgB, hq, e1, e2]
    clear hq
    have HX := hide hX
    clear hX
    go_wp2_with fail
    refine (unhide HA w1).mono ?_
    rintro e w2 ⟨y, rfl, hb2⟩
    have hB2 := bstep hB1 hb2
    have hX2 := blk_below (unhide HX) hb2
    cases ha : askB k f st u with
    | true =>
      have HE2 : Hid (msgB k f n st t u r = true) := by show msgB k f n st t u r = true; rw [unhide HE, ha]; simp
      clear HA HTO HE hX2 HX x0 x1 x2 x3 x4 x5 ha
      go_wp2
      go_ret
      exact ⟨ret_bool (unhide HE2).symm, hB2⟩
    | false =>
      obtain ⟨y0, y1, y2, y3, y4, y5⟩ := six_cells hX2
      have H2 := hide (unhide HTO w2 hB2)
      have HE2 : Hid (msgB k f n st t u r = tellB k f st t u r) := by show msgB k f n st t u r = tellB k f st t u r; rw [unhide HE, ha]; simp
      clear HA HTO HE hX2 HX x0 x1 x2 x3 x4 x5 ha
      go_wp2_with fail
      refine (unhide H2).mono ?_
      rintro e w3 ⟨z, v, rfl, hb3⟩
      have hB3 := bstep hB2 hb3
      go_wp2
      go_ret
      exact ⟨ret_bool (unhide HE2).symm, hB3⟩

set_option maxRecDepth 100000 in
set_option maxHeartbeats 2000000 in
theorem specMsgOk_any (k f n st : Int) (xa ya : Option Addr) (xc yc : Nat) (t u : List C) (r : Bool) (w : World) (hT : OutM w xa xc t) (hU : OutM w ya yc u) (hTd : ∀ W, Below w.heap.size w W → trm u = true → TdT W (.slice ya u.length yc) u) (hr : CanB t u r) :
    Calls Try.prog 16 #[mV k f n st xa ya t.length xc u.length yc] w fun e w' => e = .returned (.bool (msgB k f n st t u r)) ∧ Below w.heap.size w w' := by
  have HR := hide hr
  clear hr
  have HO := hide (fun (W : World) (hW : Below w.heap.size w W) => specOutOk_any st xa ya xc yc t u r W (hT.below hW) (hU.below hW) (hTd W hW) (unhide HR))
  obtain ⟨W, hW⟩ : ∃ W, W = w.alloc (Obj.cells #[Value.int IntKind.i64 k, Value.int IntKind.i64 f, Value.slice xa t.length xc, Value.int IntKind.i64 n, Value.int IntKind.i64 st, Value.slice ya u.length yc] 41) := ⟨_, rfl⟩
  have hB0 : Below w.heap.size w W := by rw [hW]; exact cell_below _ _
  have hX : W.heap[w.heap.size]? = some (.cells #[Value.int IntKind.i64 k, Value.int IntKind.i64 f, Value.slice xa t.length xc, Value.int IntKind.i64 n, Value.int IntKind.i64 st, Value.slice ya u.length yc] 41 (0, 0)) := by
    rw [hW]
    exact heap_alloc_new w _
  have HQ := hide (l4Top_any xa xc t W (hT.below hB0))
  have hul := hU.len
  unfold mV
  clear hT hU HR hTd
  go_enter Try.func16, Try.ntmps16
  go_wp2_with fail
  rw [← hW]
  clear hW
  refine (unhide HQ).mono ?_
  rintro e w1 ⟨rfl, hb1⟩
  have hB1 := bstep hB0 hb1
  replace hX := blk_below hX hb1
  obtain ⟨x0, x1, x2, x3, x4, x5⟩ := six_cells hX
  clear HQ hB0 hb1 hX
  cases hq : isQ t with
  | false =>
    have HE : Hid (msgB k f n st t u r = false) := by show msgB k f n st t u r = false; simp [msgB, hq]
    clear HO hq
    go_wp2
    go_ret
    exact ⟨ret_bool (unhide HE).symm, hB1⟩
  | true =>
    have HQT := hide hq
    clear hq
    go_wp2_with fail
    refine (l1In_any n 1 12000 _).mono ?_
    rintro e w2 ⟨rfl, hww⟩
    subst hww
    by_cases h1 : ¬ (1 ≤ n ∧ n ≤ 12000)
    · have hd : decide (1 ≤ n ∧ n ≤ 12000) = false := by simpa using h1
      have HE : Hid (msgB k f n st t u r = false) := by show msgB k f n st t u r = false; simp [msgB]; omega
      rw [hd]
      clear HO HQT hd
      go_wp2
      go_ret
      exact ⟨ret_bool (unhide HE).symm, hB1⟩
    replace h1 : 1 ≤ n ∧ n ≤ 12000 := by omega
    have hd : decide (1 ≤ n ∧ n ≤ 12000) = true := by simpa using h1
    have HE : Hid (msgB k f n st t u r = (askB k f st u || tellB k f st t u r)) := by
      show msgB k f n st t u r = (askB k f st u || tellB k f st t u r)
      have e1 : decide (1 ≤ n) = true := by simp; omega
      have e2 : decide (n ≤ 12000) = true := by simp; omega
      simp [msgB, unhide HQT, e1, e2]
    rw [hd]
    clear HQT hd h1
    by_cases h2 : k = 1
    · subst h2
      have HT : Hid (tellB 1 f st t u r = false) := by show tellB 1 f st t u r = false; simp [tellB]
      clear HO
      go_wp2_with fail
      refine (l1In_any f 0 3 _).mono ?_
      rintro e w3 ⟨rfl, hww⟩
      subst hww
      by_cases h3 : ¬ (0 ≤ f ∧ f ≤ 3)
      · have hd : decide (0 ≤ f ∧ f ≤ 3) = false := by simpa using h3
        have HE2 : Hid (msgB 1 f n st t u r = false) := by show msgB 1 f n st t u r = false; rw [unhide HE, unhide HT]; simp [askB]; omega
        rw [hd]
        clear hd HE
        go_wp2
        go_ret
        exact ⟨ret_bool (unhide HE2).symm, hB1⟩
      replace h3 : 0 ≤ f ∧ f ≤ 3 := by omega
      have hd : decide (0 ≤ f ∧ f ≤ 3) = true := by simpa using h3
      rw [hd]
      clear hd
      by_cases h4 : st = 0
      · have hb4 : (st == 0) = true := by simpa using h4
        have HE2 : Hid (msgB 1 f n st t u r = decide (u.length = 0)) := by show msgB 1 f n st t u r = _; rw [unhide HE, unhide HT]; simp [askB, h3.1, h3.2, h4]
        clear HE h4
        by_cases h5 : u.length = 0
        · have HE3 : Hid (msgB 1 f n st t u r = true) := by show msgB 1 f n st t u r = true; rw [unhide HE2]; simpa using h5
          have hb5 : ((u.length : Int) == 0) = true := by simpa using h5
          clear HE2 h5
          go_wp2
          go_ret
          exact ⟨ret_bool (unhide HE3).symm, hB1⟩
        · have HE3 : Hid (msgB 1 f n st t u r = false) := by show msgB 1 f n st t u r = false; rw [unhide HE2]; simpa using h5
          have hb5 : ((u.length : Int) == 0) = false := by rw [beq_eq_false_iff_ne]; omega
          clear HE2 h5
          go_wp2
          go_ret
          exact ⟨ret_bool (unhide HE3).symm, hB1⟩
      · have hb4 : (st == 0) = false := by simpa using h4
        have HE2 : Hid (msgB 1 f n st t u r = false) := by show msgB 1 f n st t u r = _; rw [unhide HE, unhide HT]; simp [askB, h4]
        clear HE h4
        go_wp2
        go_ret
        exact ⟨ret_bool (unhide HE2).symm, hB1⟩
    · have hb2 : (k == 1) = false := by simpa using h2
      have HT : Hid (askB k f st u = false) := by show askB k f st u = false; simp [askB, h2]
      by_cases h3 : k = 2
      · subst h3
        by_cases h4 : f = 0
        · subst h4
          have HE2 : Hid (msgB 2 0 n st t u r = outB st t u r) := by show msgB 2 0 n st t u r = _; rw [unhide HE, unhide HT]; simp [tellB]
          have H2 := hide (unhide HO w2 hB1)
          clear HO HE HT hb2 h2
          go_wp2_with fail
          refine (unhide H2).mono ?_
          rintro e w3 ⟨rfl, hb3⟩
          have hB3 := bstep hB1 hb3
          go_wp2
          go_ret
          exact ⟨ret_bool (unhide HE2).symm, hB3⟩
        · have hb4 : (f == 0) = false := by simpa using h4
          have HE2 : Hid (msgB 2 f n st t u r = false) := by show msgB 2 f n st t u r = _; rw [unhide HE, unhide HT]; simp [tellB, h4]
          clear HO HE HT h4 hb2 h2
          go_wp2
          go_ret
          exact ⟨ret_bool (unhide HE2).symm, hB1⟩
      · have hb3 : (k == 2) = false := by simpa using h3
        have HE2 : Hid (msgB k f n st t u r = false) := by show msgB k f n st t u r = _; rw [unhide HE, unhide HT]; simp [tellB, h3]
        clear HO HE HT h3 h2
        go_wp2
        go_ret
        exact ⟨ret_bool (unhide HE2).symm, hB1⟩
end Go.Proofs.Ytonpahhcfgdeoaa

/- Arguments of the laws, opened: bytes that came in. -/
namespace Go.Proofs.Ytonpahhcfgdeoaa
open Go.RowKit Go.Deep Go.ChangeShapes Go.WideShapes
set_option linter.unusedVariables false
set_option linter.unusedSimpArgs false

/-- Bytes that came in. -/
def Bin (w : World) (a : Option Addr) (len cap : Nat) (z : Nat → Int) : Prop :=
  len ≤ cap ∧ cap ≤ maxLen ∧ (∀ i, 0 ≤ z i ∧ z i ≤ 255) ∧ (len = 0 ∨ ∃ b off, a = some ⟨b, off, none⟩ ∧ ∀ i, i < len → w.cell? ⟨b, off + i, none⟩ = some (.int .u8 (z i)))

theorem Try.cellsByte : Try.prog.cellsOf 5 = 1 := by kernel_rfl

/-- A slice of bytes that came in leads to bytes. -/
theorem open_bytes {H : Type} {enc : TypeId × Value → H} {W : World} {a : Option Addr} {len cap : Nat} {d : DataW H} {p : List MemPlace}
    (h : DataW.Trod enc Try.prog W 0 (fun _ => true) true 45 (.slice a len cap) d p) : ∃ z, Bin W a len cap z := by
  obtain ⟨fuel, hf⟩ := h
  rcases open_ints Try.underlying45 Try.underlying5 Try.cellsByte hf with ⟨hcs, _⟩ | ⟨x, l, c, zs, hcs, _, hl, hm, hz, _, hcell, hwz⟩
  · simp [Value.cells] at hcs
    obtain ⟨rfl, rfl, rfl⟩ := hcs
    exact ⟨fun _ => 0, Nat.le_refl _, by simp [maxLen], fun _ => ⟨by simp, by simp⟩, .inl rfl⟩
  · simp [Value.cells] at hcs
    obtain ⟨rfl, rfl, rfl⟩ := hcs
    have hzl : zs.length = cap := by simpa using hz
    have hb : ∀ i, 0 ≤ zs.getD i 0 ∧ zs.getD i 0 ≤ 255 := fun i => by
      by_cases hi : i < zs.length
      · have hm' : zs.getD i 0 ∈ zs := by rw [show zs.getD i 0 = zs[i] by simp [List.getD, hi]]; exact List.getElem_mem hi
        have hw' := hwz _ hm'
        generalize zs.getD i 0 = y at hw' ⊢
        simpa [Lit.wf, IntKind.min, IntKind.max, IntKind.signed, IntKind.bits] using hw'
      · rw [show zs.getD i 0 = 0 by simp [List.getD, hi]]; omega
    refine ⟨fun i => zs.getD i 0, hl, hm, hb, ?_⟩
    by_cases h0 : len = 0
    · exact .inl h0
    · right
      obtain ⟨b, off, spot⟩ := x
      have hsp : spot = none := by
        have := hcell 0 (by omega)
        simpa [Addr.add] using World.cell?_spot this
      subst hsp
      refine ⟨b, off, rfl, fun i hi => ?_⟩
      have := hcell i (by omega)
      rwa [add_zero_spot] at this
end Go.Proofs.Ytonpahhcfgdeoaa

/- Bytes in memory: a slice that leads to them, and what owns them. -/
namespace Go.Proofs.Ytonpahhcfgdeoaa
open Go.RowKit
set_option linter.unusedVariables false
set_option linter.unusedSimpArgs false

/-- All are bytes. -/
def ByL (z : List Int) : Prop := ∀ x ∈ z, 0 ≤ x ∧ x ≤ 255
def AtY (w : World) (b off : Nat) (z : List Int) : Prop := ∀ i, (h : i < z.length) → w.cell? ⟨b, off + i, none⟩ = some (.int .u8 z[i])
def RowY (w : World) (ao : Option Addr) (z : List Int) : Prop := z = [] ∨ ∃ b off, ao = some ⟨b, off, none⟩ ∧ AtY w b off z

theorem ByL.get {z : List Int} (h : ByL z) (i : Nat) (hi : i < z.length) : 0 ≤ z[i] ∧ z[i] ≤ 255 := h _ (List.getElem_mem hi)
theorem ByL.nil : ByL [] := fun x h => by cases h
theorem ByL.one {x : Int} (h : 0 ≤ x ∧ x ≤ 255) : ByL [x] := fun y hy => by simp at hy; subst hy; exact h
theorem ByL.app {a b : List Int} (ha : ByL a) (hb : ByL b) : ByL (a ++ b) := fun x hx => by
  rcases List.mem_append.1 hx with h | h
  · exact ha x h
  · exact hb x h
theorem ByL.take {a : List Int} (ha : ByL a) (k : Nat) : ByL (a.take k) := fun x hx => ha x (List.mem_of_mem_take hx)
theorem ByL.drop {a : List Int} (ha : ByL a) (k : Nat) : ByL (a.drop k) := fun x hx => ha x (List.mem_of_mem_drop hx)

theorem AtY.below {w w' : World} {b off : Nat} {z : List Int} (h : AtY w b off z) (hb : Below w.heap.size w w') : AtY w' b off z := fun i hi =>
  (hb.cell (p := ⟨b, off + i, none⟩) (World.block_lt_of_cell? w ⟨b, _, none⟩ (h i hi))).trans (h i hi)
theorem RowY.below {w w' : World} {ao : Option Addr} {z : List Int} (h : RowY w ao z) (hb : Below w.heap.size w w') : RowY w' ao z := by
  rcases h with h | ⟨b, off, e, h⟩
  · exact .inl h
  · exact .inr ⟨b, off, e, h.below hb⟩
theorem AtY.lt {w : World} {b off : Nat} {z : List Int} (h : AtY w b off z) (hl : 0 < z.length) : b < w.heap.size :=
  World.block_lt_of_cell? w ⟨b, _, none⟩ (h 0 hl)
theorem AtY.take {w : World} {b off : Nat} {z : List Int} (h : AtY w b off z) (k : Nat) : AtY w b off (z.take k) := fun i hi => by
  have hi' : i < z.length := by simp at hi; omega
  rw [List.getElem_take]
  exact h i hi'
theorem AtY.drop {w : World} {b off : Nat} {z : List Int} (h : AtY w b off z) (k : Nat) : AtY w b (off + k) (z.drop k) := fun i hi => by
  have hi' : k + i < z.length := by simp at hi; omega
  rw [List.getElem_drop, Nat.add_assoc]
  exact h (k + i) hi'
theorem RowY.of_at {w : World} {b off : Nat} {z : List Int} (h : AtY w b off z) : RowY w (some ⟨b, off, none⟩) z := .inr ⟨b, off, rfl, h⟩

/-- The bytes as they lie. -/
def bys (z : List Int) : List Value := z.map (Value.int .u8)
theorem bys_length (z : List Int) : (bys z).length = z.length := by simp [bys]
theorem bys_get (z : List Int) (i : Nat) (h : i < z.length) : (bys z)[i]? = some (.int .u8 z[i]) := by simp [bys, h]
theorem bys_app (a b : List Int) : bys (a ++ b) = bys a ++ bys b := by simp [bys]
theorem bys_one (z : List Int) : ∀ u ∈ bys z, u.oneCell' = true := fun u hu => by
  obtain ⟨x, _, rfl⟩ := List.mem_map.1 hu
  rfl

/-- A slice value v owns the bytes z. -/
def OwnY (w : World) (base : Nat) (v : Value) (z : List Int) : Prop := w.ownsRow base 5 1 v z.length (bys z)

theorem ownsY_at {w : World} {base e g cap n : Nat} {z : List Int} (h : w.ownsRow base e 1 (.slice (some ⟨g, 0, none⟩) n cap) n (bys z)) (hn : n = z.length) : AtY w g 0 z := fun i hi => by
  have e0 := h.cellAt i (by omega)
  rw [Nat.zero_add]
  exact e0.trans (bys_get z i hi)

theorem OwnY.shape {w : World} {base : Nat} {v : Value} {z : List Int} (h : OwnY w base v z) : ∃ ao cap, v = .slice ao z.length cap ∧ RowY w ao z := by
  have h' := h
  rcases h.2 with ⟨e, hn⟩ | ⟨g, cap, cur, e, _⟩
  · refine ⟨none, 0, ?_, .inl (List.length_eq_zero_iff.1 hn)⟩
    rw [e, hn]
  · subst e
    exact ⟨_, _, rfl, .inr ⟨g, 0, rfl, ownsY_at h' rfl⟩⟩
theorem OwnY.row {w : World} {base : Nat} {ao : Option Addr} {n cap : Nat} {z : List Int} (h : OwnY w base (.slice ao n cap) z) : RowY w ao z := by
  obtain ⟨ao', cap', e, hR⟩ := h.shape
  simp only [Value.slice.injEq] at e
  obtain ⟨rfl, _, _⟩ := e
  exact hR
theorem OwnY.below {w w1 : World} {base : Nat} {v : Value} {z : List Int} (h : OwnY w base v z) (hb : Below w.heap.size w w1) : OwnY w1 base v z := own_below h hb
theorem OwnY.some {w : World} {base : Nat} {v : Value} {z : List Int} (h : OwnY w base v z) (hl : 0 < z.length) : ∃ g cap, v = .slice (some ⟨g, 0, none⟩) z.length cap ∧ base ≤ g ∧ g < w.heap.size ∧ AtY w g 0 z ∧ z.length ≤ cap ∧ cap ≤ maxLen := by
  have h' := h
  rcases h.2 with ⟨e, hn⟩ | ⟨g, cap, cur, e, hb, hg, hc, hm, _⟩
  · omega
  · subst e
    exact ⟨g, cap, rfl, hb, (Array.getElem?_eq_some_iff.1 hg).1, ownsY_at h' rfl, hc, hm⟩

/-- Bytes that came in are a list of bytes. -/
theorem Bin.list {w : World} {a : Option Addr} {len cap : Nat} {z : Nat → Int} (h : Bin w a len cap z) : ∃ y : List Int, y.length = len ∧ ByL y ∧ RowY w a y ∧ len ≤ cap ∧ cap ≤ maxLen := by
  obtain ⟨h1, h2, h3, h4⟩ := h
  refine ⟨(List.range len).map z, by simp, ?_, ?_, h1, h2⟩
  · intro x hx
    obtain ⟨i, _, rfl⟩ := List.mem_map.1 hx
    exact h3 i
  · rcases h4 with rfl | ⟨b, off, e, hc⟩
    · exact .inl rfl
    · refine .inr ⟨b, off, e, fun i hi => ?_⟩
      have hi' : i < len := by simpa using hi
      simpa using hc i hi'
end Go.Proofs.Ytonpahhcfgdeoaa
