import Derived.Test.YtonpahhcfgdeoaaDoorQOK4YG1YG2
import Derived.Test.YtonpahhcfgdeoaaDoorQYB1YB2W2W3
import Derived.Test.YtonpahhcfgdeoaaDoorQZ10Z11Z12
import Derived.Test.YtonpahhcfgdeoaaDoorQZB1Z16Z17
import Derived.Test.YtonpahhcfgdeoaaDoorQPlain3Plain6
/- MsgOk of the program and of the specification. -/
namespace Go.Proofs.YtonpahhcfgdeoaaDoor
open Go.RowKit
set_option linter.unusedVariables false
set_option linter.unusedSimpArgs false

theorem fld_optInt (a b : Value) (w : World) : Sem.run Tryd.prog (Instr.field 68 (.agg #[a, b]) 1) w = .ok b w := by
  simp [Instr.field, asAgg, go_sem]
theorem fld_optOut (a b c : Value) (w : World) : Sem.run Tryd.prog (Instr.field 71 (.agg #[a, b, c]) 1) w = .ok c w := by
  simp [Instr.field, asAgg, go_sem]

set_option maxRecDepth 100000 in
set_option maxHeartbeats 2000000 in
theorem implMsgOk_any (k f n st : Int) (xa ya : Option Addr) (xc yc : Nat) (t u : List C) (r : Bool) (w : World) (hT : OutM w xa xc t) (hU : OutM w ya yc u) (hr : CanB t u r) :
    Calls Tryd.prog 19 #[mV k f n st xa ya t.length xc u.length yc] w fun e w' => e = .returned (.bool (msgB k f n st t u r)) ∧ Below w.heap.size w w' := by
  have HR := hide hr
  clear hr
  have hf1 := fld_optInt
  have hf2 := fld_optOut
  have hul := hU.len
  have HA := hide (fun (W : World) => askerOf_any k f n st xa ya xc yc t u W hul)
  have HTO := hide (fun (W : World) (hW : Below w.heap.size w W) => toldBy_any k f n st xa ya xc yc t u r W (hT.below hW) (hU.below hW) (unhide HR))
  obtain ⟨W, hW⟩ : ∃ W, W = w.alloc (Obj.cells #[Value.int IntKind.i64 k, Value.int IntKind.i64 f, Value.slice xa t.length xc, Value.int IntKind.i64 n, Value.int IntKind.i64 st, Value.slice ya u.length yc] 27) := ⟨_, rfl⟩
  have hB0 : Below w.heap.size w W := by rw [hW]; exact cell_below _ _
  have hX : W.heap[w.heap.size]? = some (.cells #[Value.int IntKind.i64 k, Value.int IntKind.i64 f, Value.slice xa t.length xc, Value.int IntKind.i64 n, Value.int IntKind.i64 st, Value.slice ya u.length yc] 27 (0, 0)) := by
    rw [hW]
    exact heap_alloc_new w _
  have hT2 := hT.below hB0
  have HQ := hide (questionOf_any xa xc t W hT2.cap1 hT2.cap2 hT2.len hT2.row hT2.fit hT2.wf)
  unfold mV at HA HTO ⊢
  clear hT hU hT2 HR hul
  go_enter Tryd.func19, Tryd.ntmps19
  go_wp2_with fail
  rw [← hW]
  clear hW
  refine (unhide HQ).mono ?_
  rintro e w1 ⟨hq, hb1⟩
  have hB1 := bstep hB0 hb1
  replace hX := blk_below hX hb1
  obtain ⟨x0, x1, x2, x3, x4, x5⟩ := six_cells hX
  clear HQ hB0 hb1
  rcases hq with ⟨hq, rfl⟩ | ⟨hq, p, rfl, _⟩
  · have HE : Hid (msgB k f n st t u r = false) := by show msgB k f n st t u r = false; simp [msgB, hq]
    clear hX HA HTO hq
    go_wp2
    go_ret
    exact ⟨ret_bool (unhide HE).symm, hB1⟩
  · by_cases h1 : n < 1
    · have HE : Hid (msgB k f n st t u r = false) := by show msgB k f n st t u r = false; simp [msgB]; omega
      clear hX HA HTO hq
      go_wp2
      go_ret
      exact ⟨ret_bool (unhide HE).symm, hB1⟩
    by_cases h2 : 12000 < n
    · have HE : Hid (msgB k f n st t u r = false) := by show msgB k f n st t u r = false; simp [msgB]; omega
      clear hX HA HTO hq
      go_wp2
      go_ret
      exact ⟨ret_bool (unhide HE).symm, hB1⟩
    have HE : Hid (msgB k f n st t u r = (askB k f st u || tellB k f st t u r)) := by
      show msgB k f n st t u r = (askB k f st u || tellB k f st t u r)
      have e1 : decide (1 ≤ n) = true := by simp; omega
      have e2 : decide (n ≤ 12000) = true := by simp; omega
      simp [msgB, hq, e1, e2]
    clear hq
    have HX := hide hX
    clear hX
    go_wp2_with fail
    refine (unhide HA w1).mono ?_
    rintro e w2 ⟨y, rfl, hb2⟩
    have hB2 := bstep hB1 hb2
    have hX2 := blk_below (unhide HX) hb2
    cases ha : askB k f st u with
    | true =>
      have HE2 : Hid (msgB k f n st t u r = true) := by show msgB k f n st t u r = true; rw [unhide HE, ha]; simp
      clear HA HTO HE hX2 HX x0 x1 x2 x3 x4 x5 ha
      go_wp2
      go_ret
      exact ⟨ret_bool (unhide HE2).symm, hB2⟩
    | false =>
      obtain ⟨y0, y1, y2, y3, y4, y5⟩ := six_cells hX2
      have H2 := hide (unhide HTO w2 hB2)
      have HE2 : Hid (msgB k f n st t u r = tellB k f st t u r) := by show msgB k f n st t u r = tellB k f st t u r; rw [unhide HE, ha]; simp
      clear HA HTO HE hX2 HX x0 x1 x2 x3 x4 x5 ha
      go_wp2_with fail
      refine (unhide H2).mono ?_
      rintro e w3 ⟨z, v, rfl, hb3⟩
      have hB3 := bstep hB2 hb3
      go_wp2
      go_ret
      exact ⟨ret_bool (unhide HE2).symm, hB3⟩

set_option maxRecDepth 100000 in
set_option maxHeartbeats 2000000 in
theorem specMsgOk_any (k f n st : Int) (xa ya : Option Addr) (xc yc : Nat) (t u : List C) (r : Bool) (w : World) (hT : OutM w xa xc t) (hU : OutM w ya yc u) (hTd : ∀ W, Below w.heap.size w W → trm u = true → TdT W (.slice ya u.length yc) u) (hr : CanB t u r) :
    Calls Tryd.prog 15 #[mV k f n st xa ya t.length xc u.length yc] w fun e w' => e = .returned (.bool (msgB k f n st t u r)) ∧ Below w.heap.size w w' := by
  have HR := hide hr
  clear hr
  have HO := hide (fun (W : World) (hW : Below w.heap.size w W) => specOutOk_any st xa ya xc yc t u r W (hT.below hW) (hU.below hW) (hTd W hW) (unhide HR))
  obtain ⟨W, hW⟩ : ∃ W, W = w.alloc (Obj.cells #[Value.int IntKind.i64 k, Value.int IntKind.i64 f, Value.slice xa t.length xc, Value.int IntKind.i64 n, Value.int IntKind.i64 st, Value.slice ya u.length yc] 27) := ⟨_, rfl⟩
  have hB0 : Below w.heap.size w W := by rw [hW]; exact cell_below _ _
  have hX : W.heap[w.heap.size]? = some (.cells #[Value.int IntKind.i64 k, Value.int IntKind.i64 f, Value.slice xa t.length xc, Value.int IntKind.i64 n, Value.int IntKind.i64 st, Value.slice ya u.length yc] 27 (0, 0)) := by
    rw [hW]
    exact heap_alloc_new w _
  have HQ := hide (l4Top_any xa xc t W (hT.below hB0))
  have hul := hU.len
  unfold mV
  clear hT hU HR hTd
  go_enter Tryd.func15, Tryd.ntmps15
  go_wp2_with fail
  rw [← hW]
  clear hW
  refine (unhide HQ).mono ?_
  rintro e w1 ⟨rfl, hb1⟩
  have hB1 := bstep hB0 hb1
  replace hX := blk_below hX hb1
  obtain ⟨x0, x1, x2, x3, x4, x5⟩ := six_cells hX
  clear HQ hB0 hb1 hX
  cases hq : isQ t with
  | false =>
    have HE : Hid (msgB k f n st t u r = false) := by show msgB k f n st t u r = false; simp [msgB, hq]
    clear HO hq
    go_wp2
    go_ret
    exact ⟨ret_bool (unhide HE).symm, hB1⟩
  | true =>
    have HQT := hide hq
    clear hq
    go_wp2_with fail
    refine (l1In_any n 1 12000 _).mono ?_
    rintro e w2 ⟨rfl, hww⟩
    subst hww
    by_cases h1 : ¬ (1 ≤ n ∧ n ≤ 12000)
    · have hd : decide (1 ≤ n ∧ n ≤ 12000) = false := by simpa using h1
      have HE : Hid (msgB k f n st t u r = false) := by show msgB k f n st t u r = false; simp [msgB]; omega
      rw [hd]
      clear HO HQT hd
      go_wp2
      go_ret
      exact ⟨ret_bool (unhide HE).symm, hB1⟩
    replace h1 : 1 ≤ n ∧ n ≤ 12000 := by omega
    have hd : decide (1 ≤ n ∧ n ≤ 12000) = true := by simpa using h1
    have HE : Hid (msgB k f n st t u r = (askB k f st u || tellB k f st t u r)) := by
      show msgB k f n st t u r = (askB k f st u || tellB k f st t u r)
      have e1 : decide (1 ≤ n) = true := by simp; omega
      have e2 : decide (n ≤ 12000) = true := by simp; omega
      simp [msgB, unhide HQT, e1, e2]
    rw [hd]
    clear HQT hd h1
    by_cases h2 : k = 1
    · subst h2
      have HT : Hid (tellB 1 f st t u r = false) := by show tellB 1 f st t u r = false; simp [tellB]
      clear HO
      go_wp2_with fail
      refine (l1In_any f 0 3 _).mono ?_
      rintro e w3 ⟨rfl, hww⟩
      subst hww
      by_cases h3 : ¬ (0 ≤ f ∧ f ≤ 3)
      · have hd : decide (0 ≤ f ∧ f ≤ 3) = false := by simpa using h3
        have HE2 : Hid (msgB 1 f n st t u r = false) := by show msgB 1 f n st t u r = false; rw [unhide HE, unhide HT]; simp [askB]; omega
        rw [hd]
        clear hd HE
        go_wp2
        go_ret
        exact ⟨ret_bool (unhide HE2).symm, hB1⟩
      replace h3 : 0 ≤ f ∧ f ≤ 3 := by omega
      have hd : decide (0 ≤ f ∧ f ≤ 3) = true := by simpa using h3
      rw [hd]
      clear hd
      by_cases h4 : st = 0
      · have hb4 : (st == 0) = true := by simpa using h4
        have HE2 : Hid (msgB 1 f n st t u r = decide (u.length = 0)) := by show msgB 1 f n st t u r = _; rw [unhide HE, unhide HT]; simp [askB, h3.1, h3.2, h4]
        clear HE h4
        by_cases h5 : u.length = 0
        · have HE3 : Hid (msgB 1 f n st t u r = true) := by show msgB 1 f n st t u r = true; rw [unhide HE2]; simpa using h5
          have hb5 : ((u.length : Int) == 0) = true := by simpa using h5
          clear HE2 h5
          go_wp2
          go_ret
          exact ⟨ret_bool (unhide HE3).symm, hB1⟩
        · have HE3 : Hid (msgB 1 f n st t u r = false) := by show msgB 1 f n st t u r = false; rw [unhide HE2]; simpa using h5
          have hb5 : ((u.length : Int) == 0) = false := by rw [beq_eq_false_iff_ne]; omega
          clear HE2 h5
          go_wp2
          go_ret
          exact ⟨ret_bool (unhide HE3).symm, hB1⟩
      · have hb4 : (st == 0) = false := by simpa using h4
        have HE2 : Hid (msgB 1 f n st t u r = false) := by show msgB 1 f n st t u r = _; rw [unhide HE, unhide HT]; simp [askB, h4]
        clear HE h4
        go_wp2
        go_ret
        exact ⟨ret_bool (unhide HE2).symm, hB1⟩
    · have hb2 : (k == 1) = false := by simpa using h2
      have HT : Hid (askB k f st u = false) := by show askB k f st u = false; simp [askB, h2]
      by_cases h3 : k = 2
      · subst h3
        by_cases h4 : f = 0
        · subst h4
          have HE2 : Hid (msgB 2 0 n st t u r = outB st t u r) := by show msgB 2 0 n st t u r = _; rw [unhide HE, unhide HT]; simp [tellB]
          have H2 := hide (unhide HO w2 hB1)
          clear HO HE HT hb2 h2
          go_wp2_with fail
          refine (unhide H2).mono ?_
          rintro e w3 ⟨rfl, hb3⟩
          have hB3 := bstep hB1 hb3
          go_wp2
          go_ret
          exact ⟨ret_bool (unhide HE2).symm, hB3⟩
        · have hb4 : (f == 0) = false := by simpa using h4
          have HE2 : Hid (msgB 2 f n st t u r = false) := by show msgB 2 f n st t u r = _; rw [unhide HE, unhide HT]; simp [tellB, h4]
          clear HO HE HT h4 hb2 h2
          go_wp2
          go_ret
          exact ⟨ret_bool (unhide HE2).symm, hB1⟩
      · have hb3 : (k == 2) = false := by simpa using h3
        have HE2 : Hid (msgB k f n st t u r = false) := by show msgB k f n st t u r = _; rw [unhide HE, unhide HT]; simp [tellB, h3]
        clear HO HE HT h3 h2
        go_wp2
        go_ret
        exact ⟨ret_bool (unhide HE2).symm, hB1⟩
end Go.Proofs.YtonpahhcfgdeoaaDoor

/- Messages out of bytes: what comes of them, without memory. -/
namespace Go.Proofs.YtonpahhcfgdeoaaDoor
open Go.RowKit
set_option linter.unusedVariables false
set_option linter.unusedSimpArgs false

abbrev MsgT := Int × Int × Int × Int × List C × List C
/-- What a frame holds. -/
def rdF (y : List Int) : Option MsgT :=
  match bdy y with
  | some z => (match rdM z with | some (m, []) => some m | _ => none)
  | none => none
theorem rdF_iff {y : List Int} {m : MsgT} : rdF y = some m ↔ ∃ z, bdy y = some z ∧ rdM z = some (m, []) := by
  unfold rdF
  constructor
  · intro h
    split at h
    · rename_i z hz
      split at h
      · rename_i m' hm
        simp only [Option.some.injEq] at h
        exact ⟨z, hz, by rw [hm, h]⟩
      · cases h
    · cases h
  · rintro ⟨z, hz, hm⟩
    simp [hz, hm]
theorem rdF_none {y : List Int} (h : ∀ m, rdF y ≠ some m) : rdF y = none := by
  cases hr : rdF y with
  | none => rfl
  | some m => exact absurd hr (h m)
/-- The message that bytes are: what a frame holds, if that is ok. -/
def RdD (y : List Int) (D : Option MsgT) : Prop :=
  (rdF y = none ∧ D = none) ∨ ∃ k f n st t u r, rdF y = some (k, f, n, st, t, u) ∧ CanB t u r ∧ D = if msgB k f n st t u r then some (k, f, n, st, t, u) else none
theorem rdD_ex (y : List Int) : ∃ D, RdD y D := by
  cases h : rdF y with
  | none => exact ⟨none, .inl ⟨h, rfl⟩⟩
  | some m =>
    obtain ⟨k, f, n, st, t, u⟩ := m
    obtain ⟨r, hr⟩ := canB_all t u
    exact ⟨_, .inr ⟨k, f, n, st, t, u, r, h, hr, rfl⟩⟩
theorem RdD.no {y : List Int} {D : Option MsgT} (h : RdD y D) (hn : rdF y = none) : D = none := by
  rcases h with ⟨_, h⟩ | ⟨k, f, n, st, t, u, r, h, _, _⟩
  · exact h
  · rw [hn] at h; cases h
theorem RdD.yes {y : List Int} {D : Option MsgT} {k f n st : Int} {t u : List C} (h : RdD y D) (hs : rdF y = some (k, f, n, st, t, u)) : ∃ r, CanB t u r ∧ D = if msgB k f n st t u r then some (k, f, n, st, t, u) else none := by
  rcases h with ⟨h, _⟩ | ⟨k', f', n', st', t', u', r, h, hr, hD⟩
  · rw [hs] at h; cases h
  · rw [hs] at h
    simp only [Option.some.injEq, Prod.mk.injEq] at h
    obtain ⟨rfl, rfl, rfl, rfl, rfl, rfl⟩ := h
    exact ⟨r, hr, hD⟩

theorem rdT_trm {y : List Int} {t : List C} {r : List Int} (h : rdT y = some (t, r)) : trm t = true := by
  obtain ⟨_, _, _, _, ht⟩ := rdT_parts h
  exact ht
theorem rdM_trm {y : List Int} {k f n st : Int} {t u : List C} {r : List Int} (h : rdM y = some ((k, f, n, st, t, u), r)) : trm t = true ∧ (u = [] ∨ trm u = true) := by
  unfold rdM at h
  split at h
  · split at h
    · rename_i t' r1 hT
      split at h
      · split at h
        · rename_i u' r2 hU
          simp only [Option.some.injEq, Prod.mk.injEq] at h
          obtain ⟨⟨_, _, _, _, rfl, rfl⟩, _⟩ := h
          exact ⟨rdT_trm hT, .inr (rdT_trm hU)⟩
        · cases h
      · simp only [Option.some.injEq, Prod.mk.injEq] at h
        obtain ⟨⟨_, _, _, _, rfl, rfl⟩, _⟩ := h
        exact ⟨rdT_trm hT, .inl rfl⟩
    · cases h
  · cases h
theorem rdF_trm {y : List Int} {k f n st : Int} {t u : List C} (h : rdF y = some (k, f, n, st, t, u)) : trm t = true ∧ (u = [] ∨ trm u = true) := by
  obtain ⟨z, _, hm⟩ := rdF_iff.1 h
  exact rdM_trm hm
theorem okC_s8 {c : C} (h : okC c = true) : c.s.size ≤ 8 := (okC_parts h).2.2.2
theorem fitT {t : List C} (h : trm t = true) : Fit t := fun c hc => by
  have := okC_s8 (((trm_iff t).1 h).2.2.1 c hc)
  unfold maxLen
  omega
theorem own_shape2 {w : World} {base : Nat} {v : Value} {t : List C} (h : OwnC w base v t) : ∃ ao cap, v = .slice ao t.length cap ∧ t.length ≤ cap ∧ cap ≤ maxLen ∧ Row w ao t := by
  obtain ⟨ao, cap, e, hR⟩ := h.shape
  refine ⟨ao, cap, e, ?_, ?_, hR⟩
  · rcases h.2 with ⟨e1, h2⟩ | ⟨g, cap', cur, e1, _, _, h3, h4, _⟩
    · omega
    · rw [e] at e1; cases e1; exact h3
  · rcases h.2 with ⟨e1, h2⟩ | ⟨g, cap', cur, e1, _, _, h3, h4, _⟩
    · rw [e] at e1
      injection e1 with _ _ e3
      rw [e3]; simp [maxLen]
    · rw [e] at e1; cases e1; exact h4
theorem outM_own {w : World} {base n cap : Nat} {ao : Option Addr} {t : List C} (h : OwnC w base (.slice ao n cap) t) (ht : t = [] ∨ trm t = true) : OutM w ao cap t ∧ n = t.length := by
  obtain ⟨ao', cap', e, h1, h2, hr⟩ := own_shape2 h
  simp only [Value.slice.injEq] at e
  obtain ⟨rfl, rfl, rfl⟩ := e
  refine ⟨⟨hr, ?_, ?_, ?_, h1, h2⟩, rfl⟩
  · rcases ht with rfl | ht
    · exact fun c hc => by cases hc
    · exact fitT ht
  · rcases ht with rfl | ht
    · exact fun c hc => by cases hc
    · exact wf_trm ht
  · rcases ht with rfl | ht
    · simp
    · have := (trm_len ht).2; omega

/-- The reader's message, and the end of the frame. -/
theorem msg_end {y : List Int} {k f n st : Int} {t u : List C} {p' : Nat} {er' : Bool} (hy : ByL y) (hp : p' ≤ y.length) (hm : MR (opE y) y (tkZ false y 0 2).length k f n st t u p' er') :
    (clE er' y p' = true ∧ rdF y = none) ∨ (clE er' y p' = false ∧ rdF y = some (k, f, n, st, t, u)) := by
  cases hc : clE er' y p' with
  | false =>
    right
    refine ⟨rfl, rdF_iff.2 ?_⟩
    have he : er' = false := by
      cases er' with
      | false => rfl
      | true => simp [clE, tkE] at hc
    subst he
    rcases hm with ⟨a, _⟩ | ⟨_, ho, hr⟩
    · cases a
    · exact frame_back hy ho hp hr hc
  | true =>
    left
    refine ⟨rfl, rdF_none fun m h => ?_⟩
    obtain ⟨z, hb, hz⟩ := rdF_iff.1 h
    obtain ⟨h1, h2, h3, h4⟩ := frame_yes hb hz
    rw [h1, h2] at hm
    rcases hm with ⟨_, a | a⟩ | ⟨e, _, hr⟩
    · cases a
    · rw [h3] at a; cases a
    · rw [h3] at hr
      simp only [Option.some.injEq, Prod.mk.injEq] at hr
      have hb4 : 4 ≤ y.length := by
        unfold bdy at hb
        split at hb
        · rename_i hh; exact hh.1
        · cases hb
      have hlen := congrArg List.length hr.2
      simp at hlen
      have hpe : p' = y.length - 2 := by omega
      rw [e, hpe, h4] at hc
      cases hc

/-- What a message that was taken out of bytes is. -/
def zM : MsgT := (0, 0, 0, 0, [], [])
def GotM (w : World) (D : Option MsgT) (e : Ending) (w' : World) : Prop :=
  ∃ v5 v6, e = .returned (.tuple #[.agg #[.int .i64 (D.getD zM).1, .int .i64 (D.getD zM).2.1, v5, .int .i64 (D.getD zM).2.2.1, .int .i64 (D.getD zM).2.2.2.1, v6], .bool D.isSome]) ∧
    OwnC w' w.heap.size v5 (D.getD zM).2.2.2.2.1 ∧ OwnC w' w.heap.size v6 (D.getD zM).2.2.2.2.2 ∧ Apt v5 v6 ∧ Below w.heap.size w w'
theorem gotM_no {w w' : World} {D : Option MsgT} (h : D = none) (hB : Below w.heap.size w w') : GotM w D (.returned (.tuple #[.agg #[.int .i64 0, .int .i64 0, .slice none 0 0, .int .i64 0, .int .i64 0, .slice none 0 0], .bool false])) w' := by
  subst h
  exact ⟨_, _, rfl, ownC_nil _ _, ownC_nil _ _, apt_none _, hB⟩
theorem gotM_yes {w w' : World} {D : Option MsgT} {k f n st : Int} {t u : List C} {v5 v6 : Value} (h : D = some (k, f, n, st, t, u)) (h5 : OwnC w' w.heap.size v5 t) (h6 : OwnC w' w.heap.size v6 u) (ha : Apt v5 v6) (hB : Below w.heap.size w w') :
    GotM w D (.returned (.tuple #[.agg #[.int .i64 k, .int .i64 f, v5, .int .i64 n, .int .i64 st, v6], .bool true])) w' := by
  subst h
  exact ⟨_, _, rfl, h5, h6, ha, hB⟩
end Go.Proofs.YtonpahhcfgdeoaaDoor
