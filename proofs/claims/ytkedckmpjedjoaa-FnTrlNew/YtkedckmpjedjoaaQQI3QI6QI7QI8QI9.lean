import Derived.Test.YtkedckmpjedjoaaQQI1QI2QI4
import Derived.Test.YtkedckmpjedjoaaQT5SH0SH1QI5
/- Where a name is called: the program's node, the specification's l3Node. -/
namespace Go.Proofs.Ytkedckmpjedjoaa
open Go.RowKit Go.Shelf
set_option linter.unusedVariables false
set_option linter.unusedSimpArgs false

/-- Where a name with so many arguments is called. -/
def nodeP : List Pc → ByteArray → Int → Int
  | [], _, _ => 0
  | y :: r, s, n => if y.s = s ∧ y.n = n then y.d else nodeP r s n
theorem nodeP_hit {ps : List Pc} {s : ByteArray} {n : Int} {k : Nat} (hk : k < ps.length) (h1 : ps[k].s = s) (h2 : ps[k].n = n) : nodeP (ps.drop k) s n = ps[k].d := by
  rw [List.drop_eq_getElem_cons hk, nodeP, if_pos ⟨h1, h2⟩]
theorem nodeP_miss {ps : List Pc} {s : ByteArray} {n : Int} {k : Nat} (hk : k < ps.length) (h : ¬ (ps[k].s = s ∧ ps[k].n = n)) : nodeP (ps.drop k) s n = nodeP (ps.drop (k + 1)) s n := by
  rw [List.drop_eq_getElem_cons hk, nodeP, if_neg h]

set_option maxRecDepth 100000 in
set_option maxHeartbeats 2000000 in
theorem node_any (P : Nat) (ao : Option Addr) (cap : Nat) (ps : List Pc) (s : ByteArray) (n : Int) (w : World) (hl : ps.length ≤ 1048576) (hc : w.cell? ⟨P, 1, none⟩ = some (.slice ao ps.length cap)) (hA : RowP w ao ps) :
    Calls Try.prog 145 #[.pointer (some ⟨P, 0, none⟩), .string s, .int .i64 n] w fun e w' => e = .returned (.int .i64 (nodeP ps s n)) ∧ Below w.heap.size w w' := by
  have HA := hide (fun (W : World) (hW : Below w.heap.size w W) => hA.below hW)
  clear hA
  go_enter Try.func145, Try.ntmps145
  go_wp2
  go_loopw [14] (fun i wr => ∃ (k : Nat), k ≤ ps.length ∧ i = .int .i64 k ∧ nodeP ps s n = nodeP (ps.drop k) s n ∧ Below w.heap.size w wr) (fun i _ => ps.length - (intOf i).toNat)
  case atStart => exact ⟨0, Nat.zero_le _, rfl, rfl, Below.refl _ _⟩
  case round =>
    obtain ⟨k, hk, rfl, hn, hBr⟩ := hrel
    have HN := hide hn
    clear hn
    by_cases hlt : k < ps.length
    · rcases unhide HA wr hBr with e | ⟨b, off, e, hA⟩
      · rw [e] at hlt; simp at hlt
      subst e
      obtain ⟨v0, v1, v2, g0, g1, g2, hv⟩ := hA k hlt
      obtain ⟨q0, q1, q2⟩ := hv
      subst q0 q1 q2
      have HH := hide (nodeP_hit (s := s) (n := n) hlt)
      have HM := hide (nodeP_miss (s := s) (n := n) hlt)
      obtain ⟨y, hy⟩ : ∃ y, y = ps[k] := ⟨_, rfl⟩
      rw [← hy] at g0 g1 g2 HH HM
      clear hy hA
      have hbl := cell_below wr (.cells #[.string y.s, .int .i64 y.n, .int .i64 y.d] 144)
      by_cases hs : y.s = s
      · by_cases hnn : y.n = n
        · have HV := hide ((unhide HN).trans (unhide HH hs hnn))
          subst hs hnn
          clear HN HH HM
          go_wp2
          go_ret
          exact ⟨by rw [unhide HV]; rfl, bstep hBr hbl⟩
        · have HV := hide ((unhide HN).trans (unhide HM (fun h => hnn h.2)))
          have hnb : (y.n == n) = false := by simpa using hnn
          subst hs
          clear HN HH HM hnn
          go_wp2
          go_roundw
          case rel => exact ⟨k + 1, by omega, by go_num, unhide HV, bstep hBr hbl⟩
          case measure => simp [intOf]; omega
      · have HV := hide ((unhide HN).trans (unhide HM (fun h => hs h.1)))
        have hbq : (y.s.toList == s.toList) = false := by rw [ByteArray.toList_eq, ByteArray.toList_eq]; simp only [beq_eq_false_iff_ne]; exact fun h => hs (bytes_ext h)
        clear HN HH HM hs
        go_wp2
        go_roundw
        case rel => exact ⟨k + 1, by omega, by go_num, unhide HV, bstep hBr hbl⟩
        case measure => simp [intOf]; omega
    · have e : k = ps.length := by omega
      subst e
      have HV : Hid (nodeP ps s n = 0) := by show _ = _; rw [unhide HN, List.drop_length]; rfl
      clear HN
      go_wp2
      go_ret
      exact ⟨by rw [unhide HV]; rfl, hBr⟩
end Go.Proofs.Ytkedckmpjedjoaa

/- A program that is being made: a clause more. -/
namespace Go.Proofs.Ytkedckmpjedjoaa
open Go.RowKit Go.Shelf
set_option linter.unusedVariables false
set_option linter.unusedSimpArgs false
attribute [-go_sem] Go.Builtin.append_

def flatPc : List Pc → List Value
  | [] => []
  | y :: r => .string y.s :: .int .i64 y.n :: .int .i64 y.d :: flatPc r
/-- A program that is being made. -/
structure PrM (w : World) (P cl : Nat) (ps : List Pc) (wr : World) (vc vp : Value) : Prop where
  hp : wr.heap[P]? = some (.cells #[vc, vp] 82 (0, 0))
  oc : ∃ xs, wr.ownsRow (P + 1) 149 1 vc cl xs
  op : wr.ownsRow (P + 1) 144 3 vp ps.length (flatPc ps)
  lo : w.heap.size ≤ P
  bl : Below w.heap.size w wr
theorem program_cells {w : World} {B : Nat} {a b : Value} (h : w.heap[B]? = some (.cells #[a, b] 82 (0, 0))) :
    w.cell? ⟨B, 0, none⟩ = some a ∧ w.cell? ⟨B, 1, none⟩ = some b ∧ w.frozen? ⟨B, 0, none⟩ = false ∧ w.frozen? ⟨B, 1, none⟩ = false := by
  simp [World.cell?, World.frozen?, h]
theorem PrM.lt {w : World} {P cl : Nat} {ps : List Pc} {wr : World} {vc vp : Value} (h : PrM w P cl ps wr vc vp) : P < wr.heap.size := (Array.getElem?_eq_some_iff.1 h.hp).1
theorem PrM.below {w : World} {P cl : Nat} {ps : List Pc} {wr wr' : World} {vc vp : Value} (h : PrM w P cl ps wr vc vp) (hb : Below wr.heap.size wr wr') : PrM w P cl ps wr' vc vp := by
  obtain ⟨xs, hx⟩ := h.oc
  exact ⟨(hb.block P h.lt).trans h.hp, ⟨xs, own_below hx hb⟩, own_below h.op hb, h.lo, bstep h.bl hb⟩
/-- Rows of two types lie in two blocks. -/
theorem own_types {w : World} {base e1 e2 s1 s2 n1 n2 : Nat} {v1 v2 : Value} {x1 x2 : List Value} (h1 : w.ownsRow base e1 s1 v1 n1 x1) (h2 : w.ownsRow base e2 s2 v2 n2 x2) (he : e1 ≠ e2) : ∀ g, v1.ownBlock = some g → v2.ownBlock ≠ some g := by
  intro g g1 g2
  rcases h1.2 with ⟨rfl, _⟩ | ⟨a, c, cur, rfl, _, hb, _⟩
  · simp [Value.ownBlock] at g1
  · rcases h2.2 with ⟨rfl, _⟩ | ⟨a', c', cur', rfl, _, hb', _⟩
    · simp [Value.ownBlock] at g2
    · have e1 : a = g := by simpa [Value.ownBlock] using g1
      have e2 : a' = g := by simpa [Value.ownBlock] using g2
      subst e1 e2
      rw [hb] at hb'
      simp only [Option.some.injEq, Obj.cells.injEq] at hb'
      exact he hb'.2.1
theorem prM_clause {w wr w3 : World} {P cl g' cap' : Nat} {ps : List Pc} {vc vp u : Value} {xs : List Value} {ob : Obj} (h : PrM w P cl ps wr vc vp) (hx : wr.ownsRow (P + 1) 149 1 vc cl xs)
    (hown : w3.ownsRow (P + 1) 149 1 (.slice (some ⟨g', 0, none⟩) (cl + 1) cap') (cl + 1) (xs ++ [u])) (hgrow : (wr.alloc ob).grownBy w3 vc.ownBlock) :
    w3.heap[P]? = some (.cells #[vc, vp] 82 (0, 0)) ∧ PrM w P (cl + 1) ps (w3.setCell ⟨P, 0, none⟩ (.slice (some ⟨g', 0, none⟩) (cl + 1) cap')) (.slice (some ⟨g', 0, none⟩) (cl + 1) cap') vp := by
  have hP := h.lt
  have hsa : (wr.alloc ob).heap.size = wr.heap.size + 1 := by simp
  have hP3 : w3.heap[P]? = some (.cells #[vc, vp] 82 (0, 0)) := by
    rw [hgrow.block P (by omega) (fun e => by have := (hx.lt P e.symm).1; omega), Below.heap_alloc _ _ _ hP]
    exact h.hp
  refine ⟨hP3, ?_, ⟨_, own_block hown (fun j e => Below.heap_setCell _ _ _ _ ?_)⟩, own_block h.op (fun j e => ?_), h.lo, ?_⟩
  · obtain ⟨hlt, hk'⟩ := Array.getElem?_eq_some_iff.1 hP3
    show (w3.heap.modify P _)[P]? = _
    rw [Array.getElem?_eq_getElem (by rw [Array.size_modify]; exact hlt), Array.getElem_modify_self, hk']
    rfl
  · have := (hown.lt j e).1
    show j ≠ P
    omega
  · have hj := h.op.lt j e
    rw [Below.heap_setCell _ _ _ _ (by show j ≠ P; omega), hgrow.block j (by omega) (fun e' => own_types h.op hx (by decide) j e e'.symm)]
    exact Below.heap_alloc _ _ _ (by omega)
  · exact ((h.bl.alloc (by have := h.lo; omega) ob).grown hgrow (by have := h.lo; omega) (fun j e => by have := (hx.lt j e).1; have := h.lo; omega)).setCell (p := ⟨P, 0, none⟩) h.lo _

set_option maxRecDepth 100000 in
set_option maxHeartbeats 4000000 in
theorem addClause_yes (w : World) (P q cl : Nat) (ps : List Pc) (wr : World) (vc vp : Value) (hc : cl < 12) (h : PrM w P cl ps wr vc vp) :
    Calls Try.prog 104 #[.pointer (some ⟨P, 0, none⟩), .pointer (some ⟨q, 0, none⟩)] wr fun e w' => e = .returned (.bool true) ∧ ∃ vc', PrM w P (cl + 1) ps w' vc' vp := by
  obtain ⟨i0, hi, hz0, hz1, hz2⟩ := info_parts (show (Try.prog.info? 149).map (fun i => (i.zero, i.size, i.bytes)) = some (some (.pointer none), 1, 8) by kernel_rfl)
  obtain ⟨xs, hx⟩ := h.oc
  obtain ⟨c0, c1, f0, f1⟩ := program_cells h.hp
  have hsh : ∃ ao cap, vc = .slice ao cl cap := by
    rcases hx.2 with ⟨e, hn⟩ | ⟨g, cap, cur, e, _⟩
    · exact ⟨none, 0, by rw [e, hn]⟩
    · exact ⟨_, _, e⟩
  obtain ⟨ao, cap, rfl⟩ := hsh
  have hlt := h.lt
  have hlo := h.lo
  have ca0 := cell_keep5 c0 (.cells #[.pointer (some ⟨q, 0, none⟩)] 149)
  obtain ⟨g', cap', w3, hr, hown', hgrow, hat, hgl⟩ := run_append_lies (P := Try.prog) (wr.alloc (.cells #[.pointer (some ⟨q, 0, none⟩)] 149)) 80 80 (P + 1) 149 i0 _ 1 8 Try.underlying80 hi hz0 hz1 hz2 rfl (by decide) (.slice ao cl cap) cl xs (World.ownsRow.alloc hx _) ⟨wr.heap.size, 0, none⟩ 1 1 [.pointer (some ⟨q, 0, none⟩)] rfl (cell_one_new wr _ _) (by simp [Value.oneCell']) (by omega) (by unfold maxLen; omega) (by omega) (by simp; omega) _ rfl
  have hr' : Sem.run Try.prog (Builtin.append_ #[80, 80] 80 #[.slice ao cl cap, .slice (some ⟨wr.heap.size, 0, none⟩) 1 1]) (wr.alloc (.cells #[.pointer (some ⟨q, 0, none⟩)] 149)) = .ok (.slice (some ⟨g', 0, none⟩) (cl + 1) cap') w3 := hr
  obtain ⟨hn3, hM⟩ := prM_clause h hx hown' hgrow
  obtain ⟨t0, t1, s0, s1⟩ := program_cells hn3
  have HM := hide hM
  have hc12 : ((cl : Int) == 12) = false := by simp; omega
  clear hr hM hown' hgrow hat hgl h hx hn3
  go_enter Try.func104, Try.ntmps104
  go_wp2
  go_ret
  exact ⟨rfl, _, unhide HM⟩
end Go.Proofs.Ytkedckmpjedjoaa

/- A program that is being made: where one name more is called. -/
namespace Go.Proofs.Ytkedckmpjedjoaa
open Go.RowKit Go.Shelf
set_option linter.unusedVariables false
set_option linter.unusedSimpArgs false
attribute [-go_sem] Go.Builtin.append_

theorem flatPc_length : ∀ ps : List Pc, (flatPc ps).length = ps.length * 3
  | [] => rfl
  | y :: r => by simp [flatPc, flatPc_length r]; omega
theorem flatPc_append : ∀ a b : List Pc, flatPc (a ++ b) = flatPc a ++ flatPc b
  | [], b => rfl
  | y :: r, b => by simp [flatPc, flatPc_append r b]
theorem flatPc_get : ∀ (ps : List Pc) (i : Nat) (h : i < ps.length), (flatPc ps)[i * 3]? = some (.string ps[i].s) ∧ (flatPc ps)[i * 3 + 1]? = some (.int .i64 ps[i].n) ∧ (flatPc ps)[i * 3 + 2]? = some (.int .i64 ps[i].d)
  | y :: r, 0, _ => by simp [flatPc]
  | y :: r, i + 1, h => by
    have ih := flatPc_get r i (by simpa using h)
    have e : (i + 1) * 3 = i * 3 + 1 + 1 + 1 := by omega
    simp only [flatPc, e, List.getElem?_cons_succ, List.getElem_cons_succ]
    exact ih
theorem rowP_own {w : World} {base : Nat} {ao : Option Addr} {cap : Nat} {ps : List Pc} (h : w.ownsRow base 144 3 (.slice ao ps.length cap) ps.length (flatPc ps)) : RowP w ao ps := by
  rcases h.2 with ⟨e, hn⟩ | ⟨g, c, cur, e, _⟩
  · exact .inl (List.length_eq_zero_iff.1 hn)
  · have e' := e
    simp only [Value.slice.injEq] at e'
    obtain ⟨rfl, _, rfl⟩ := e'
    refine .inr ⟨g, 0, rfl, fun i hi => ?_⟩
    obtain ⟨q0, q1, q2⟩ := flatPc_get ps i hi
    have hl := flatPc_length ps
    refine ⟨_, _, _, ?_, ?_, ?_, rfl, rfl, rfl⟩
    · rw [Nat.zero_add]; exact (h.cellAt (i * 3) (by omega)).trans q0
    · rw [Nat.zero_add]; exact (h.cellAt (i * 3 + 1) (by omega)).trans q1
    · rw [Nat.zero_add]; exact (h.cellAt (i * 3 + 2) (by omega)).trans q2
/-- One name more may be told. -/
def okPl (ps : List Pc) (y : Pc) : Bool := okC ⟨3, y.n, y.s⟩ && decide (1 ≤ y.d ∧ y.d < 3) && decide (ps.length ≠ 6) && decide (nodeP ps y.s y.n = 0)
theorem prM_place {w w2 w3 : World} {P cl g' cap' : Nat} {ps : List Pc} {y : Pc} {vc vp : Value} {ob : Obj} (h : PrM w P cl ps w2 vc vp)
    (hown : w3.ownsRow (P + 1) 144 3 (.slice (some ⟨g', 0, none⟩) (ps.length + 1) cap') (ps.length + 1) (flatPc ps ++ [.string y.s, .int .i64 y.n, .int .i64 y.d])) (hgrow : (w2.alloc ob).grownBy w3 vp.ownBlock) :
    w3.heap[P]? = some (.cells #[vc, vp] 82 (0, 0)) ∧ PrM w P cl (ps ++ [y]) (w3.setCell ⟨P, 1, none⟩ (.slice (some ⟨g', 0, none⟩) (ps.length + 1) cap')) vc (.slice (some ⟨g', 0, none⟩) (ps.length + 1) cap') := by
  have hP := h.lt
  obtain ⟨xs, hx⟩ := h.oc
  have hsa : (w2.alloc ob).heap.size = w2.heap.size + 1 := by simp
  have hP3 : w3.heap[P]? = some (.cells #[vc, vp] 82 (0, 0)) := by
    rw [hgrow.block P (by omega) (fun e => by have := (h.op.lt P e.symm).1; omega), Below.heap_alloc _ _ _ hP]
    exact h.hp
  refine ⟨hP3, ?_, ⟨xs, own_block hx (fun j e => ?_)⟩, ?_, h.lo, ?_⟩
  · obtain ⟨hlt, hk'⟩ := Array.getElem?_eq_some_iff.1 hP3
    show (w3.heap.modify P _)[P]? = _
    rw [Array.getElem?_eq_getElem (by rw [Array.size_modify]; exact hlt), Array.getElem_modify_self, hk']
    rfl
  · have hj := hx.lt j e
    rw [Below.heap_setCell _ _ _ _ (by show j ≠ P; omega), hgrow.block j (by omega) (fun e' => own_types hx h.op (by decide) j e e'.symm)]
    exact Below.heap_alloc _ _ _ (by omega)
  · have e : (ps ++ [y]).length = ps.length + 1 := by simp
    rw [e, flatPc_append]
    exact own_block hown (fun j e => Below.heap_setCell _ _ _ _ (by have := (hown.lt j e).1; show j ≠ P; omega))
  · exact ((h.bl.alloc (by have := h.lo; omega) ob).grown hgrow (by have := h.lo; omega) (fun j e => by have := (h.op.lt j e).1; have := h.lo; omega)).setCell (p := ⟨P, 1, none⟩) h.lo _
end Go.Proofs.Ytkedckmpjedjoaa

/- addPlace of the program. -/
namespace Go.Proofs.Ytkedckmpjedjoaa
open Go.RowKit Go.Shelf
set_option linter.unusedVariables false
set_option linter.unusedSimpArgs false
attribute [-go_sem] Go.Builtin.append_

set_option maxRecDepth 100000 in
set_option maxHeartbeats 4000000 in
theorem addPlace_any (w : World) (P cl : Nat) (ps : List Pc) (y : Pc) (wr : World) (vc vp : Value) (hl : ps.length ≤ 6) (hs : y.s.size ≤ maxLen) (h : PrM w P cl ps wr vc vp) :
    Calls Try.prog 103 #[.pointer (some ⟨P, 0, none⟩), .agg #[.string y.s, .int .i64 y.n, .int .i64 y.d]] wr fun e w' => (okPl ps y = true ∧ e = .returned (.bool true) ∧ ∃ vp', PrM w P cl (ps ++ [y]) w' vc vp') ∨ (okPl ps y = false ∧ e = .returned (.bool false) ∧ Below wr.heap.size wr w') := by
  have hsh : ∃ ao cap, vp = .slice ao ps.length cap := by
    rcases h.op.2 with ⟨e, hn⟩ | ⟨g, cap, cur, e, _⟩
    · exact ⟨none, 0, by rw [e, hn]⟩
    · exact ⟨_, _, e⟩
  obtain ⟨ao, cap, rfl⟩ := hsh
  obtain ⟨hb1, a0, a1, a2⟩ := three_new wr (.string y.s) (.int .i64 y.n) (.int .i64 y.d) 144
  obtain ⟨hb2, _, _, _⟩ := three_new (wr.alloc (.cells #[.string y.s, .int .i64 y.n, .int .i64 y.d] 144)) (.int .i64 3) (.int .i64 y.n) (.string y.s) 98
  have hb12 := bstep hb1 hb2
  have hlw : wr.heap.size < (wr.alloc (.cells #[.string y.s, .int .i64 y.n, .int .i64 y.d] 144)).heap.size := World.block_lt_of_cell? _ ⟨_, _, none⟩ a0
  replace a0 := (hb2.cell (p := ⟨wr.heap.size, 0, none⟩) hlw).trans a0
  replace a1 := (hb2.cell (p := ⟨wr.heap.size, 1, none⟩) hlw).trans a1
  replace a2 := (hb2.cell (p := ⟨wr.heap.size, 2, none⟩) hlw).trans a2
  have HCO := hide (fun (W : World) => cellOk_any ⟨3, y.n, y.s⟩ W hs)
  have HM := hide h
  have HEQ : Hid (okPl ps y = (okC ⟨3, y.n, y.s⟩ && decide (1 ≤ y.d ∧ y.d < 3) && decide (ps.length ≠ 6) && decide (nodeP ps y.s y.n = 0))) := rfl
  obtain ⟨B, hB⟩ : ∃ B, B = okC ⟨3, y.n, y.s⟩ := ⟨_, rfl⟩
  rw [← hB] at HEQ
  have HCB : Hid (∀ W : World, Calls Try.prog 128 #[.agg #[.int .i64 3, .int .i64 y.n, .string y.s]] W fun e w' => e = .returned (.bool B) ∧ Below W.heap.size W w') := fun W => by rw [hB]; exact unhide HCO W
  clear HCO hB h hs hb1 hb2 hlw
  go_enter Try.func103, Try.ntmps103
  go_wp2_with fail
  generalize (wr.alloc (.cells #[.string y.s, .int .i64 y.n, .int .i64 y.d] 144)).alloc (.cells #[.int .i64 3, .int .i64 y.n, .string y.s] 98) = w0 at hb12 a0 a1 a2 ⊢
  have hl0 : wr.heap.size < w0.heap.size := World.block_lt_of_cell? w0 ⟨_, _, none⟩ a0
  refine (unhide HCB w0).mono ?_
  rintro e w1 ⟨rfl, hb1⟩
  replace a0 := (hb1.cell (p := ⟨wr.heap.size, 0, none⟩) hl0).trans a0
  replace a1 := (hb1.cell (p := ⟨wr.heap.size, 1, none⟩) hl0).trans a1
  replace a2 := (hb1.cell (p := ⟨wr.heap.size, 2, none⟩) hl0).trans a2
  have hB1 := bstep hb12 hb1
  have hl1 : wr.heap.size < w1.heap.size := World.block_lt_of_cell? w1 ⟨_, _, none⟩ a0
  have hM1 := (unhide HM).below hB1
  clear HCB HM hb12 hb1 hl0
  cases B with
  | false =>
    have HF : Hid (okPl ps y = false) := by show _ = _; rw [unhide HEQ]; rfl
    clear hM1
    go_wp2
    go_ret
    exact .inr ⟨unhide HF, rfl, hB1⟩
  | true =>
    by_cases hd1 : 1 ≤ y.d
    case neg =>
      have HF : Hid (okPl ps y = false) := by show _ = _; rw [unhide HEQ]; simp [hd1]
      clear hM1
      go_wp2
      go_ret
      exact .inr ⟨unhide HF, rfl, hB1⟩
    by_cases hd2 : y.d < 3
    case neg =>
      have HF : Hid (okPl ps y = false) := by show _ = _; rw [unhide HEQ]; simp [hd2]
      clear hM1
      go_wp2
      go_ret
      exact .inr ⟨unhide HF, rfl, hB1⟩
    obtain ⟨c0, c1, f0, f1⟩ := program_cells hM1.hp
    by_cases h6 : ps.length = 6
    · have HF : Hid (okPl ps y = false) := by show _ = _; rw [unhide HEQ]; simp [h6]
      have h6' : ((ps.length : Int) == 6) = true := by simp; omega
      clear hM1 h6
      go_wp2
      go_ret
      exact .inr ⟨unhide HF, rfl, hB1⟩
    have h6' : ((ps.length : Int) == 6) = false := by simp; omega
    have HND := hide (node_any P ao cap ps y.s y.n w1 (by omega) c1 (rowP_own hM1.op))
    have hPl := hM1.lt
    have hlo := hM1.lo
    by_cases hnd : nodeP ps y.s y.n = 0
    · have HT : Hid (okPl ps y = true) := by show _ = _; rw [unhide HEQ]; simp [hd1, hd2, h6, hnd]
      rw [hnd] at HND
      have HM1 := hide hM1
      clear hM1 hnd h6
      obtain ⟨i0, hi, hz0, hz1, hz2⟩ := info_parts Try.infoP
      go_wp2_with (go_at_call 145; refine (unhide HND).mono ?_; rintro e w2 ⟨rfl, hb2⟩)
      have hM2 := (unhide HM1).below hb2.drew
      obtain ⟨p0, p1, s0, s1⟩ := program_cells hM2.hp
      have b0 := (hb2.drew.cell (p := ⟨wr.heap.size, 0, none⟩) hl1).trans a0
      have b1 := (hb2.drew.cell (p := ⟨wr.heap.size, 1, none⟩) hl1).trans a1
      have b2 := (hb2.drew.cell (p := ⟨wr.heap.size, 2, none⟩) hl1).trans a2
      have pa1 := cell_keep5 p1 (.cells #[.string y.s, .int .i64 y.n, .int .i64 y.d] 144)
      have hs2 := hb2.size
      have key := World.alloc_heap_new w2.drew (.cells #[.string y.s, .int .i64 y.n, .int .i64 y.d] 144)
      obtain ⟨g', cap', w3, hr, hown', hgrow, hat, hgl⟩ := run_append_lies (P := Try.prog) (w2.drew.alloc (.cells #[.string y.s, .int .i64 y.n, .int .i64 y.d] 144)) 28 28 (P + 1) 144 i0 _ 3 32 Try.underlying28 hi hz0 hz1 hz2 rfl (by decide) (.slice ao ps.length cap) ps.length (flatPc ps) (World.ownsRow.alloc hM2.op _) ⟨w2.drew.heap.size, 0, none⟩ 1 1 [.string y.s, .int .i64 y.n, .int .i64 y.d] rfl (fun j u hj => by
        match j, hj with
        | 0, hj => simp at hj; subst hj; show (w2.drew.alloc (.cells #[.string y.s, .int .i64 y.n, .int .i64 y.d] 144)).cell? ⟨w2.drew.heap.size, 0 + 0, none⟩ = _; simp only [World.cell?]; rw [key]; rfl
        | 1, hj => simp at hj; subst hj; show (w2.drew.alloc (.cells #[.string y.s, .int .i64 y.n, .int .i64 y.d] 144)).cell? ⟨w2.drew.heap.size, 0 + 1, none⟩ = _; simp only [World.cell?]; rw [key]; rfl
        | 2, hj => simp at hj; subst hj; show (w2.drew.alloc (.cells #[.string y.s, .int .i64 y.n, .int .i64 y.d] 144)).cell? ⟨w2.drew.heap.size, 0 + 2, none⟩ = _; simp only [World.cell?]; rw [key]; rfl) (by simp [Value.oneCell']) (by omega) (by unfold maxLen; omega) (by omega) (by simp; omega) _ rfl
      have hr' : Sem.run Try.prog (Builtin.append_ #[28, 28] 28 #[.slice ao ps.length cap, .slice (some ⟨w2.heap.size, 0, none⟩) 1 1]) (w2.alloc (.cells #[.string y.s, .int .i64 y.n, .int .i64 y.d] 144)).drew = .ok (.slice (some ⟨g', 0, none⟩) (ps.length + 1) cap') w3 := hr
      have pa2 : (w2.alloc (.cells #[.string y.s, .int .i64 y.n, .int .i64 y.d] 144)).drew.cell? ⟨P, 1, none⟩ = some (.slice ao ps.length cap) := pa1
      have pa3 : (w2.alloc (.cells #[.string y.s, .int .i64 y.n, .int .i64 y.d] 144)).cell? ⟨P, 1, none⟩ = some (.slice ao ps.length cap) := pa1
      obtain ⟨hn3, hM3⟩ := prM_place (y := y) hM2 hown' hgrow
      obtain ⟨t0, t1, u0, u1⟩ := program_cells hn3
      have HM3 := hide hM3
      clear hr hM3 hown' hgrow hat hgl hn3 key hM2 HM1 c0 c1 f0 f1 a0 a1 a2
      go_wp2
      go_region_with (fail)
      all_goals go_wp2
      all_goals go_ret
      all_goals exact .inl ⟨unhide HT, rfl, _, unhide HM3⟩
    · have HF : Hid (okPl ps y = false) := by show _ = _; rw [unhide HEQ]; simp [hnd]
      obtain ⟨N, hN⟩ : ∃ N, N = nodeP ps y.s y.n := ⟨_, rfl⟩
      rw [← hN] at HND hnd
      have hnb : (N != 0) = true := by simpa using hnd
      clear hM1 hN
      go_wp2_with (go_at_call 145; refine (unhide HND).mono ?_; rintro e w2 ⟨rfl, hb2⟩)
      go_ret
      exact .inr ⟨unhide HF, rfl, bstep hB1 hb2⟩
end Go.Proofs.Ytkedckmpjedjoaa

/- programOf of the program: what decides; addClause of nil, and of one too many. -/
namespace Go.Proofs.Ytkedckmpjedjoaa
open Go.RowKit Go.Shelf
set_option linter.unusedVariables false
set_option linter.unusedSimpArgs false
attribute [-go_sem] Go.Builtin.append_

theorem nodeP_take {ps : List Pc} {s : ByteArray} {n : Int} : ∀ (k : Nat), (∀ j, (h : j < ps.length) → j < k → ps[j].d ≠ 0) → (nodeP (ps.take k) s n = 0 ↔ ∀ j, (h : j < ps.length) → j < k → ¬ (ps[j].s = s ∧ ps[j].n = n)) := by
  induction ps with
  | nil => intro k _; simp [nodeP]
  | cons y r ih =>
    intro k hd
    cases k with
    | zero => simp [nodeP]
    | succ k =>
      have ih' := ih k (fun j h hj => hd (j + 1) (by simpa using h) (by omega))
      rw [List.take_succ_cons, nodeP]
      by_cases e : y.s = s ∧ y.n = n
      · rw [if_pos e]
        constructor
        · intro h0; exact absurd h0 (hd 0 (by simp) (by omega))
        · intro hh; exact absurd e (hh 0 (by simp) (by omega))
      · rw [if_neg e, ih']
        constructor
        · intro hh j h hj
          cases j with
          | zero => exact e
          | succ j => exact hh j (by simpa using h) (by omega)
        · intro hh j h hj
          exact hh (j + 1) (by simpa using h) (by omega)
theorem okC_three (n : Int) (s : ByteArray) : okC ⟨3, n, s⟩ = (nameB s && decide (0 ≤ n ∧ n ≤ 3)) := by
  unfold okC
  simp only [show ¬ ((3 : Int) = 1) by decide, show ¬ ((3 : Int) = 2) by decide, if_false, if_true]
  by_cases h : 0 ≤ n ∧ n ≤ 3 <;> simp [h] <;> cases nameB s <;> simp <;> omega
theorem pcUp_d {ps : List Pc} {k : Nat} (h : PcUp ps k) : ∀ j, (hj : j < ps.length) → j < k → ps[j].d ≠ 0 := fun j hj hjk e => by
  have := (h j hj hjk).1
  unfold pcB at this
  simp only [Bool.and_eq_true, decide_eq_true_eq] at this
  omega
theorem okPl_yes {ps : List Pc} {k : Nat} (hu : PcUp ps k) (hk : k < ps.length) (h : okPl (ps.take k) ps[k] = true) : PcAt ps k ps[k] ∧ k ≠ 6 := by
  unfold okPl at h
  simp only [Bool.and_eq_true, decide_eq_true_eq, okC_three] at h
  obtain ⟨⟨⟨⟨h1, h2⟩, h3⟩, h4⟩, h5⟩ := h
  refine ⟨⟨?_, fun j hj hjk => ?_⟩, fun e => h4 (by rw [List.length_take]; omega)⟩
  · unfold pcB; simp [h1, h2]; omega
  · exact (nodeP_take k (pcUp_d hu)).1 h5 j hj hjk
theorem okPl_no {ps : List Pc} {k : Nat} (hu : PcUp ps k) (hk : k < ps.length) (h : okPl (ps.take k) ps[k] = false) : ¬ PcAt ps k ps[k] ∨ k = 6 := by
  by_cases h6 : k = 6
  · exact .inr h6
  · refine .inl (fun hp => ?_)
    have hd := hp.1
    unfold pcB at hd
    simp only [Bool.and_eq_true, decide_eq_true_eq] at hd
    have hn := (nodeP_take (s := ps[k].s) (n := ps[k].n) k (pcUp_d hu)).2 (fun j hj hjk => hp.2 j hj hjk)
    have : okPl (ps.take k) ps[k] = true := by
      unfold okPl
      simp only [okC_three, Bool.and_eq_true, decide_eq_true_eq]
      exact ⟨⟨⟨⟨hd.1.1, hd.1.2⟩, by omega⟩, by rw [List.length_take]; omega⟩, hn⟩
    rw [h] at this
    cases this

set_option maxRecDepth 100000 in
set_option maxHeartbeats 1000000 in
theorem addClause_nil (P : Nat) (wr : World) : Calls Try.prog 104 #[.pointer (some ⟨P, 0, none⟩), .pointer none] wr fun e w' => e = .returned (.bool false) ∧ w' = wr := by
  go_enter Try.func104, Try.ntmps104
  go_wp2
  go_ret
  exact ⟨rfl, rfl⟩
set_option maxRecDepth 100000 in
set_option maxHeartbeats 1000000 in
theorem addClause_full (w : World) (P q : Nat) (ps : List Pc) (wr : World) (vc vp : Value) (h : PrM w P 12 ps wr vc vp) :
    Calls Try.prog 104 #[.pointer (some ⟨P, 0, none⟩), .pointer (some ⟨q, 0, none⟩)] wr fun e w' => e = .returned (.bool false) ∧ w' = wr := by
  obtain ⟨xs, hx⟩ := h.oc
  obtain ⟨c0, c1, f0, f1⟩ := program_cells h.hp
  have hsh : ∃ ao cap, vc = .slice ao 12 cap := by
    rcases hx.2 with ⟨e, hn⟩ | ⟨g, cap, cur, e, _⟩
    · exact absurd hn (by omega)
    · exact ⟨_, _, e⟩
  obtain ⟨ao, cap, rfl⟩ := hsh
  clear h hx
  go_enter Try.func104, Try.ntmps104
  go_wp2
  go_ret
  exact ⟨rfl, rfl⟩
end Go.Proofs.Ytkedckmpjedjoaa
