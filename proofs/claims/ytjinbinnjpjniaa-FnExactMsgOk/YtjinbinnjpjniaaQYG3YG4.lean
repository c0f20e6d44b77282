import Derived.Test.YtjinbinnjpjniaaQYG2
import Derived.Test.YtjinbinnjpjniaaQW2W3
import Derived.Deep.RegionHeld3
/- MsgOk of the program and of the specification. -/
namespace Go.Proofs.Ytjinbinnjpjniaa
open Go.RowKit
set_option linter.unusedVariables false
set_option linter.unusedSimpArgs false

theorem fld_optInt (a b : Value) (w : World) : Sem.run Try.prog (Instr.field 68 (.agg #[a, b]) 1) w = .ok b w := by
  simp [Instr.field, asAgg, go_sem]
theorem fld_optOut (a b c : Value) (w : World) : Sem.run Try.prog (Instr.field 71 (.agg #[a, b, c]) 1) w = .ok c w := by
  simp [Instr.field, asAgg, go_sem]

set_option maxRecDepth 100000 in
set_option maxHeartbeats 2000000 in
theorem implMsgOk_any (k f n st : Int) (xa ya : Option Addr) (xc yc : Nat) (t u : List C) (r : Bool) (w : World) (hT : OutM w xa xc t) (hU : OutM w ya yc u) (hr : CanB t u r) :
    Calls Try.prog 24 #[mV k f n st xa ya t.length xc u.length yc] w fun e w' => e = .returned (.bool (msgB k f n st t u r)) ∧ Below w.heap.size w w' := by
  have HR := hide hr
  clear hr
  have hf1 := fld_optInt
  have hf2 := fld_optOut
  have hul := hU.len
  have HA := hide (fun (W : World) => askerOf_any k f n st xa ya xc yc t u W hul)
  have HTO := hide (fun (W : World) (hW : Below w.heap.size w W) => toldBy_any k f n st xa ya xc yc t u r W (hT.below hW) (hU.below hW) (unhide HR))
  obtain ⟨W, hW⟩ : ∃ W, W = w.alloc (Obj.cells #[Value.int IntKind.i64 k, Value.int IntKind.i64 f, Value.slice xa t.length xc, Value.int IntKind.i64 n, Value.int IntKind.i64 st, Value.slice ya u.length yc] 45) := ⟨_, rfl⟩
  have hB0 : Below w.heap.size w W := by rw [hW]; exact cell_below _ _
  have hX : W.heap[w.heap.size]? = some (.cells #[Value.int IntKind.i64 k, Value.int IntKind.i64 f, Value.slice xa t.length xc, Value.int IntKind.i64 n, Value.int IntKind.i64 st, Value.slice ya u.length yc] 45 (0, 0)) := by
    rw [hW]
    exact heap_alloc_new w _
  have hT2 := hT.below hB0
  have HQ := hide (questionOf_any xa xc t W hT2.cap1 hT2.cap2 hT2.len hT2.row hT2.fit hT2.wf)
  unfold mV at HA HTO ⊢
  clear hT hU hT2 HR hul
  go_enter Try.func24, Try.ntmps24
  go_wp2_with fail
  rw [← hW]
  clear hW
  refine (unhide HQ).mono ?_
  rintro e w1 ⟨hq, hb1⟩
  have hB1 := bstep hB0 hb1
  replace hX := blk_below hX hb1
  obtain ⟨x0, x1, x2, x3, x4, x5⟩ := six_cells hX
  clear HQ hB0 hb1
  rcases hq with ⟨hq, rfl⟩ | ⟨hq, p, rfl, _⟩
  · have HE : Hid (msgB k f n st t u r = false) := by show msgB k f n st t u r = false; simp [msgB, hq]
    clear hX HA HTO hq
    go_wp2
    go_ret
    exact ⟨ret_bool (unhide HE).symm, hB1⟩
  · by_cases h1 : n < 1
    · have HE : Hid (msgB k f n st t u r = false) := by show msgB k f n st t u r = false; simp [msgB]; omega
      clear hX HA HTO hq
      go_wp2
      go_ret
      exact ⟨ret_bool (unhide HE).symm, hB1⟩
    by_cases h2 : 12000 < n
    · have HE : Hid (msgB k f n st t u r = false) := by show msgB k f n st t u r = false; simp [msgB]; omega
      clear hX HA HTO hq
      go_wp2
      go_ret
      exact ⟨ret_bool (unhide HE).symm, hB1⟩
    have HE : Hid (msgB k f n st t u r = (askB k f st u || tellB k f st t u r)) := by
      show msgB k f n st t u r = (askB k f st u || tellB k f st t u r)
      have e1 : decide (1 ≤ n) = true := by simp; omega
      have e2 : decide (n ≤ 12000) = true := by simp; omega
      simp [msgB, hq, e1, e2]
    clear hq
    have HX := hide hX
    clear hX
    go_wp2_with fail
    refine (unhide HA w1).mono ?_
    rintro e w2 ⟨y, rfl, hb2⟩
    have hB2 := bstep hB1 hb2
    have hX2 := blk_below (unhide HX) hb2
    cases ha : askB k f st u with
    | true =>
      have HE2 : Hid (msgB k f n st t u r = true) := by show msgB k f n st t u r = true; rw [unhide HE, ha]; simp
      clear HA HTO HE hX2 HX x0 x1 x2 x3 x4 x5 ha
      go_wp2
      go_ret
      exact ⟨ret_bool (unhide HE2).symm, hB2⟩
    | false =>
      obtain ⟨y0, y1, y2, y3, y4, y5⟩ := six_cells hX2
      have H2 := hide (unhide HTO w2 hB2)
      have HE2 : Hid (msgB k f n st t u r = tellB k f st t u r) := by show msgB k f n st t u r = tellB k f st t u r; rw [unhide HE, ha]; simp
      clear HA HTO HE hX2 HX x0 x1 x2 x3 x4 x5 ha
      go_wp2_with fail
      refine (unhide H2).mono ?_
      rintro e w3 ⟨z, v, rfl, hb3⟩
      have hB3 := bstep hB2 hb3
      go_wp2
      go_ret
      exact ⟨ret_bool (unhide HE2).symm, hB3⟩

set_option maxRecDepth 100000 in
set_option maxHeartbeats 2000000 in
theorem specMsgOk_any (k f n st : Int) (xa ya : Option Addr) (xc yc : Nat) (t u : List C) (r : Bool) (w : World) (hT : OutM w xa xc t) (hU : OutM w ya yc u) (hTd : ∀ W, Below w.heap.size w W → trm u = true → TdT W (.slice ya u.length yc) u) (hr : CanB t u r) :
    Calls Try.prog 22 #[mV k f n st xa ya t.length xc u.length yc] w fun e w' => e = .returned (.bool (msgB k f n st t u r)) ∧ Below w.heap.size w w' := by
  have HR := hide hr
  clear hr
  have HO := hide (fun (W : World) (hW : Below w.heap.size w W) => specOutOk_any st xa ya xc yc t u r W (hT.below hW) (hU.below hW) (hTd W hW) (unhide HR))
  obtain ⟨W, hW⟩ : ∃ W, W = w.alloc (Obj.cells #[Value.int IntKind.i64 k, Value.int IntKind.i64 f, Value.slice xa t.length xc, Value.int IntKind.i64 n, Value.int IntKind.i64 st, Value.slice ya u.length yc] 45) := ⟨_, rfl⟩
  have hB0 : Below w.heap.size w W := by rw [hW]; exact cell_below _ _
  have hX : W.heap[w.heap.size]? = some (.cells #[Value.int IntKind.i64 k, Value.int IntKind.i64 f, Value.slice xa t.length xc, Value.int IntKind.i64 n, Value.int IntKind.i64 st, Value.slice ya u.length yc] 45 (0, 0)) := by
    rw [hW]
    exact heap_alloc_new w _
  have HQ := hide (l4Top_any xa xc t W (hT.below hB0))
  have hul := hU.len
  unfold mV
  clear hT hU HR hTd
  go_enter Try.func22, Try.ntmps22
  go_wp2_with fail
  rw [← hW]
  clear hW
  refine (unhide HQ).mono ?_
  rintro e w1 ⟨rfl, hb1⟩
  have hB1 := bstep hB0 hb1
  replace hX := blk_below hX hb1
  obtain ⟨x0, x1, x2, x3, x4, x5⟩ := six_cells hX
  clear HQ hB0 hb1 hX
  cases hq : isQ t with
  | false =>
    have HE : Hid (msgB k f n st t u r = false) := by show msgB k f n st t u r = false; simp [msgB, hq]
    clear HO hq
    go_wp2
    go_ret
    exact ⟨ret_bool (unhide HE).symm, hB1⟩
  | true =>
    have HQT := hide hq
    clear hq
    go_wp2_with fail
    refine (l1In_any n 1 12000 _).mono ?_
    rintro e w2 ⟨rfl, hww⟩
    subst hww
    by_cases h1 : ¬ (1 ≤ n ∧ n ≤ 12000)
    · have hd : decide (1 ≤ n ∧ n ≤ 12000) = false := by simpa using h1
      have HE : Hid (msgB k f n st t u r = false) := by show msgB k f n st t u r = false; simp [msgB]; omega
      rw [hd]
      clear HO HQT hd
      go_wp2
      go_ret
      exact ⟨ret_bool (unhide HE).symm, hB1⟩
    replace h1 : 1 ≤ n ∧ n ≤ 12000 := by omega
    have hd : decide (1 ≤ n ∧ n ≤ 12000) = true := by simpa using h1
    have HE : Hid (msgB k f n st t u r = (askB k f st u || tellB k f st t u r)) := by
      show msgB k f n st t u r = (askB k f st u || tellB k f st t u r)
      have e1 : decide (1 ≤ n) = true := by simp; omega
      have e2 : decide (n ≤ 12000) = true := by simp; omega
      simp [msgB, unhide HQT, e1, e2]
    rw [hd]
    clear HQT hd h1
    by_cases h2 : k = 1
    · subst h2
      have HT : Hid (tellB 1 f st t u r = false) := by show tellB 1 f st t u r = false; simp [tellB]
      clear HO
      go_wp2_with fail
      refine (l1In_any f 0 3 _).mono ?_
      rintro e w3 ⟨rfl, hww⟩
      subst hww
      by_cases h3 : ¬ (0 ≤ f ∧ f ≤ 3)
      · have hd : decide (0 ≤ f ∧ f ≤ 3) = false := by simpa using h3
        have HE2 : Hid (msgB 1 f n st t u r = false) := by show msgB 1 f n st t u r = false; rw [unhide HE, unhide HT]; simp [askB]; omega
        rw [hd]
        clear hd HE
        go_wp2
        go_ret
        exact ⟨ret_bool (unhide HE2).symm, hB1⟩
      replace h3 : 0 ≤ f ∧ f ≤ 3 := by omega
      have hd : decide (0 ≤ f ∧ f ≤ 3) = true := by simpa using h3
      rw [hd]
      clear hd
      by_cases h4 : st = 0
      · have hb4 : (st == 0) = true := by simpa using h4
        have HE2 : Hid (msgB 1 f n st t u r = decide (u.length = 0)) := by show msgB 1 f n st t u r = _; rw [unhide HE, unhide HT]; simp [askB, h3.1, h3.2, h4]
        clear HE h4
        by_cases h5 : u.length = 0
        · have HE3 : Hid (msgB 1 f n st t u r = true) := by show msgB 1 f n st t u r = true; rw [unhide HE2]; simpa using h5
          have hb5 : ((u.length : Int) == 0) = true := by simpa using h5
          clear HE2 h5
          go_wp2
          go_ret
          exact ⟨ret_bool (unhide HE3).symm, hB1⟩
        · have HE3 : Hid (msgB 1 f n st t u r = false) := by show msgB 1 f n st t u r = false; rw [unhide HE2]; simpa using h5
          have hb5 : ((u.length : Int) == 0) = false := by rw [beq_eq_false_iff_ne]; omega
          clear HE2 h5
          go_wp2
          go_ret
          exact ⟨ret_bool (unhide HE3).symm, hB1⟩
      · have hb4 : (st == 0) = false := by simpa using h4
        have HE2 : Hid (msgB 1 f n st t u r = false) := by show msgB 1 f n st t u r = _; rw [unhide HE, unhide HT]; simp [askB, h4]
        clear HE h4
        go_wp2
        go_ret
        exact ⟨ret_bool (unhide HE2).symm, hB1⟩
    · have hb2 : (k == 1) = false := by simpa using h2
      have HT : Hid (askB k f st u = false) := by show askB k f st u = false; simp [askB, h2]
      by_cases h3 : k = 2
      · subst h3
        by_cases h4 : f = 0
        · subst h4
          have HE2 : Hid (msgB 2 0 n st t u r = outB st t u r) := by show msgB 2 0 n st t u r = _; rw [unhide HE, unhide HT]; simp [tellB]
          have H2 := hide (unhide HO w2 hB1)
          clear HO HE HT hb2 h2
          go_wp2_with fail
          refine (unhide H2).mono ?_
          rintro e w3 ⟨rfl, hb3⟩
          have hB3 := bstep hB1 hb3
          go_wp2
          go_ret
          exact ⟨ret_bool (unhide HE2).symm, hB3⟩
        · have hb4 : (f == 0) = false := by simpa using h4
          have HE2 : Hid (msgB 2 f n st t u r = false) := by show msgB 2 f n st t u r = _; rw [unhide HE, unhide HT]; simp [tellB, h4]
          clear HO HE HT h4 hb2 h2
          go_wp2
          go_ret
          exact ⟨ret_bool (unhide HE2).symm, hB1⟩
      · have hb3 : (k == 2) = false := by simpa using h3
        have HE2 : Hid (msgB k f n st t u r = false) := by show msgB k f n st t u r = _; rw [unhide HE, unhide HT]; simp [tellB, h3]
        clear HO HE HT h3 h2
        go_wp2
        go_ret
        exact ⟨ret_bool (unhide HE2).symm, hB1⟩
end Go.Proofs.Ytjinbinnjpjniaa

/- The walk of FnExactMsgOk. -/
namespace Go.Proofs.Ytjinbinnjpjniaa
open Go.RowKit
set_option linter.unusedVariables false
set_option linter.unusedSimpArgs false

theorem row_canB (t u : List C) : ∃ r, CanB t u r := canB_all t u

set_option maxRecDepth 100000 in
set_option maxHeartbeats 4000000 in
theorem FnExactMsgOk_walk (k f n st : Int) (xa ya : Option Addr) (xc yc : Nat) (t u : List C) (w : World) (hm : t.length ≤ maxLen) (um : u.length ≤ maxLen) (hA : Row w xa t) (uA : Row w ya u) (hF : Fit t) (uF : Fit u) (hw : WfC t) (uw : WfC u) :
    Calls Try.prog 6 #[.agg #[.int .i64 k, .int .i64 f, .slice xa t.length xc, .int .i64 n, .int .i64 st, .slice ya u.length yc]] w fun e w' => e = .returned (.bool true) ∧ Below w.heap.size w w' := by
  obtain ⟨r, hr⟩ := canB_all t u
  have HR := hide hr
  clear hr
  obtain ⟨W, hW⟩ : ∃ W, W = w.alloc (Obj.cells #[Value.int IntKind.i64 k, Value.int IntKind.i64 f, Value.slice xa t.length xc, Value.int IntKind.i64 n, Value.int IntKind.i64 st, Value.slice ya u.length yc] 39) := ⟨_, rfl⟩
  have hB0 : Below w.heap.size w W := by rw [hW]; exact cell_below _ _
  have hX : W.heap[w.heap.size]? = some (.cells #[Value.int IntKind.i64 k, Value.int IntKind.i64 f, Value.slice xa t.length xc, Value.int IntKind.i64 n, Value.int IntKind.i64 st, Value.slice ya u.length yc] 39 (0, 0)) := by
    rw [hW]
    exact heap_alloc_new w _
  have HSZ := hide (szMsgMsg_any k f n st xa ya xc yc t u 1048576 W hm um (hA.below hB0) (uA.below hB0) hF uF (by omega) (by omega))
  unfold mV at HSZ
  go_enter Try.func6, Try.ntmps6
  go_wp2_with fail
  rw [← hW]
  clear hW
  refine (unhide HSZ).mono ?_
  rintro e w1 ⟨r1, rfl, hr1, hb1⟩
  have hB1 := bstep hB0 hb1
  replace hX := blk_below hX hb1
  clear HSZ hB0 hb1
  by_cases hr0 : r1 < 0
  · go_wp2
    go_ret
    exact ⟨rfl, hB1⟩
  have tl : t.length ≤ 1048576 := by omega
  have ul : u.length ≤ 1048576 := by omega
  clear hr1
  have HT := hide (fun (W : World) (hW : Below w.heap.size w W) => toMsgMsg_any k f n st xa ya xc yc t u W tl ul (hA.below hW) (uA.below hW))
  have HO1 := hide (fun (W : World) (base g : Nat) (h : W.ownsRow base 55 3 (.slice (some ⟨g, 0, none⟩) t.length t.length) t.length (flat t)) => out_own h hF hw tl)
  have HO2 := hide (fun (W : World) (base g : Nat) (h : W.ownsRow base 55 3 (.slice (some ⟨g, 0, none⟩) u.length u.length) u.length (flat u)) => out_own h uF uw ul)
  have HS := hide (fun (W : World) (b1 b2 g1 g2 : Nat) (h1 : W.ownsRow b1 55 3 (.slice (some ⟨g1, 0, none⟩) t.length t.length) t.length (flat t)) (h2 : W.ownsRow b2 55 3 (.slice (some ⟨g2, 0, none⟩) u.length u.length) u.length (flat u)) => specMsgOk_any k f n st (some ⟨g1, 0, none⟩) (some ⟨g2, 0, none⟩) t.length u.length t u r W (unhide HO1 W _ _ h1) (unhide HO2 W _ _ h2) (fun W' hW' hu => out_td (own_below h2 hW') hu) (unhide HR))
  have HI := hide (fun (W : World) (b1 b2 g1 g2 : Nat) (h1 : W.ownsRow b1 55 3 (.slice (some ⟨g1, 0, none⟩) t.length t.length) t.length (flat t)) (h2 : W.ownsRow b2 55 3 (.slice (some ⟨g2, 0, none⟩) u.length u.length) u.length (flat u)) => implMsgOk_any k f n st (some ⟨g1, 0, none⟩) (some ⟨g2, 0, none⟩) t.length u.length t u r W (unhide HO1 W _ _ h1) (unhide HO2 W _ _ h2) (unhide HR))
  have HE := hide (fun (W : World) (b1 b2 b3 b4 g1 g2 g3 g4 : Nat) (h1 : W.ownsRow b1 55 3 (.slice (some ⟨g1, 0, none⟩) t.length t.length) t.length (flat t)) (h2 : W.ownsRow b2 55 3 (.slice (some ⟨g2, 0, none⟩) u.length u.length) u.length (flat u)) (h3 : W.ownsRow b3 55 3 (.slice (some ⟨g3, 0, none⟩) t.length t.length) t.length (flat t)) (h4 : W.ownsRow b4 55 3 (.slice (some ⟨g4, 0, none⟩) u.length u.length) u.length (flat u)) => eqMsgMsg_yes k f n st (some ⟨g1, 0, none⟩) (some ⟨g2, 0, none⟩) (some ⟨g3, 0, none⟩) (some ⟨g4, 0, none⟩) t.length u.length t.length u.length t u W tl ul (row_of_own h1) (row_of_own h2) (row_of_own h3) (row_of_own h4))
  obtain ⟨B, hBe⟩ : ∃ B, B = msgB k f n st t u r := ⟨_, rfl⟩
  rw [← hBe] at HS HI
  unfold mV at HT HS HI HE
  clear hA uA hF uF hw uw hm um HR HO1 HO2 hBe
  have HX1 := hide hX
  obtain ⟨x0, x1, x2, x3, x4, x5⟩ := six_cells hX
  clear hX
  -- the first copy, and the specification's answer
  go_wp2_with fail
  refine (unhide HT w1 hB1).mono ?_
  rintro e w2 ⟨g1, g2, rfl, _, o1, o2, hb2⟩
  have hB2 := bstep hB1 hb2
  have hX2 := blk_below (unhide HX1) hb2
  have H2 := hide (unhide HS w2 _ _ _ _ o1 o2)
  clear x0 x1 x2 x3 x4 x5 HX1 o1 o2
  go_wp2_with fail
  refine (unhide H2).mono ?_
  rintro e w3 ⟨rfl, hb3⟩
  have hB3 := bstep hB2 hb3
  have hX3 := blk_below hX2 hb3
  have HX3 := hide hX3
  obtain ⟨x0, x1, x2, x3, x4, x5⟩ := six_cells hX3
  clear H2 hX2 hX3
  -- the second copy, and the program's answer
  go_wp2_with fail
  refine (unhide HT w3 hB3).mono ?_
  rintro e w4 ⟨g3, g4, rfl, _, o3, o4, hb4⟩
  have hB4 := bstep hB3 hb4
  have hX4 := blk_below (unhide HX3) hb4
  clear x0 x1 x2 x3 x4 x5 HX3
  go_wp2_with fail
  obtain ⟨V, hV⟩ : ∃ V, V = w4.alloc (Obj.cells #[Value.int IntKind.i64 k, Value.int IntKind.i64 f, Value.slice (some ⟨g3, 0, none⟩) t.length t.length, Value.int IntKind.i64 n, Value.int IntKind.i64 st, Value.slice (some ⟨g4, 0, none⟩) u.length u.length] 45) := ⟨_, rfl⟩
  have hbV : Below w4.heap.size w4 V := by rw [hV]; exact cell_below _ _
  have hY : V.heap[w4.heap.size]? = some (.cells #[Value.int IntKind.i64 k, Value.int IntKind.i64 f, Value.slice (some ⟨g3, 0, none⟩) t.length t.length, Value.int IntKind.i64 n, Value.int IntKind.i64 st, Value.slice (some ⟨g4, 0, none⟩) u.length u.length] 45 (0, 0)) := by
    rw [hV]
    exact heap_alloc_new w4 _
  rw [← hV]
  have hB5 := bstep hB4 hbV
  have hX5 := blk_below hX4 hbV
  have o5 := own_below o3 hbV
  have o6 := own_below o4 hbV
  clear hV hX4 hB4 hbV o3 o4
  generalize w4.heap.size = Q at hY ⊢
  have H5 := hide (unhide HI V _ _ _ _ o5 o6)
  refine (unhide H5).mono ?_
  rintro e w6 ⟨rfl, hb6⟩
  have hB6 := bstep hB5 hb6
  have hX6 := blk_below hX5 hb6
  have hY6 := blk_below hY hb6
  have o7 := own_below o5 hb6
  have o8 := own_below o6 hb6
  have hBB : (B != B) = false := by simp
  obtain ⟨x0, x1, x2, x3, x4, x5⟩ := six_cells hX6
  obtain ⟨y0, y1, y2, y3, y4, y5⟩ := six_cells hY6
  have hlx := blk_lt hX6
  have hly := blk_lt hY6
  clear H5 hX5 hY o5 o6 HS HI hX6 hY6 hB5 hb6
  go_wp2_with fail
  have hB6d := hB6.drew
  go_region_held3 (fun w' => (w'.cell? ⟨w.heap.size, 0, none⟩ = some (.int .i64 k) ∧ w'.cell? ⟨w.heap.size, 1, none⟩ = some (.int .i64 f) ∧ w'.cell? ⟨w.heap.size, 2, none⟩ = some (.slice xa t.length xc) ∧ w'.cell? ⟨w.heap.size, 3, none⟩ = some (.int .i64 n) ∧ w'.cell? ⟨w.heap.size, 4, none⟩ = some (.int .i64 st) ∧ w'.cell? ⟨w.heap.size, 5, none⟩ = some (.slice ya u.length yc)) ∧ w'.cell? ⟨Q, 0, none⟩ = some (.int .i64 k) ∧ w'.cell? ⟨Q, 1, none⟩ = some (.int .i64 f) ∧ w'.cell? ⟨Q, 2, none⟩ = some (.slice (some ⟨g3, 0, none⟩) t.length t.length) ∧ w'.cell? ⟨Q, 3, none⟩ = some (.int .i64 n) ∧ w'.cell? ⟨Q, 4, none⟩ = some (.int .i64 st) ∧ w'.cell? ⟨Q, 5, none⟩ = some (.slice (some ⟨g4, 0, none⟩) u.length u.length)) (first | (refine ⟨⟨?_, ?_, ?_, ?_, ?_, ?_⟩, ?_, ?_, ?_, ?_, ?_, ?_⟩ <;> assumption) | go_keep) (first
    | (go_at_call 25; have hx := hb7; refine (unhide HE w7 _ _ _ _ _ _ _ _ (own_below (World.ownsRow.drew o7) hb7) (own_below (World.ownsRow.drew o8) hb7) p1 p2).mono ?_; rintro e w8 ⟨rfl, hb8⟩; have n0 := (hb8.cell (p := ⟨w.heap.size, 0, none⟩) hlx7).trans m0; have n1 := (hb8.cell (p := ⟨w.heap.size, 1, none⟩) hlx7).trans m1; have n2 := (hb8.cell (p := ⟨w.heap.size, 2, none⟩) hlx7).trans m2; have n3 := (hb8.cell (p := ⟨w.heap.size, 3, none⟩) hlx7).trans m3; have n4 := (hb8.cell (p := ⟨w.heap.size, 4, none⟩) hlx7).trans m4; have n5 := (hb8.cell (p := ⟨w.heap.size, 5, none⟩) hlx7).trans m5; have q0 := (hb8.cell (p := ⟨Q, 0, none⟩) hly7).trans z0; have q1 := (hb8.cell (p := ⟨Q, 1, none⟩) hly7).trans z1; have q2 := (hb8.cell (p := ⟨Q, 2, none⟩) hly7).trans z2; have q3 := (hb8.cell (p := ⟨Q, 3, none⟩) hly7).trans z3; have q4 := (hb8.cell (p := ⟨Q, 4, none⟩) hly7).trans z4; have q5 := (hb8.cell (p := ⟨Q, 5, none⟩) hly7).trans z5)
    | (go_at_call 23; refine (unhide HT w6.drew hB6d).mono ?_; rintro e w7 ⟨g5, g6, rfl, _, p1, p2, hb7⟩; have m0 := (hb7.cell (p := ⟨w.heap.size, 0, none⟩) hlx).trans x0; have m1 := (hb7.cell (p := ⟨w.heap.size, 1, none⟩) hlx).trans x1; have m2 := (hb7.cell (p := ⟨w.heap.size, 2, none⟩) hlx).trans x2; have m3 := (hb7.cell (p := ⟨w.heap.size, 3, none⟩) hlx).trans x3; have m4 := (hb7.cell (p := ⟨w.heap.size, 4, none⟩) hlx).trans x4; have m5 := (hb7.cell (p := ⟨w.heap.size, 5, none⟩) hlx).trans x5; have z0 := (hb7.cell (p := ⟨Q, 0, none⟩) hly).trans y0; have z1 := (hb7.cell (p := ⟨Q, 1, none⟩) hly).trans y1; have z2 := (hb7.cell (p := ⟨Q, 2, none⟩) hly).trans y2; have z3 := (hb7.cell (p := ⟨Q, 3, none⟩) hly).trans y3; have z4 := (hb7.cell (p := ⟨Q, 4, none⟩) hly).trans y4; have z5 := (hb7.cell (p := ⟨Q, 5, none⟩) hly).trans y5; have hlx7 : w.heap.size < w7.heap.size := World.block_lt_of_cell? w7 ⟨_, _, none⟩ m0; have hly7 : Q < w7.heap.size := World.block_lt_of_cell? w7 ⟨_, _, none⟩ z0))
  go_wp2
  go_ret
  exact ⟨rfl, bstep (bstep hB6d hb7) hb8⟩
end Go.Proofs.Ytjinbinnjpjniaa
