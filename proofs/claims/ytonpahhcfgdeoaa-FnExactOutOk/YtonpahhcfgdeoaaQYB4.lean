/- The specification's TrmBytes, whole; the program's nameAt, appendTerm, TrmBytes. -/
import Derived.Test.YtonpahhcfgdeoaaQYB1YB2YB3
namespace Go.Proofs.Ytonpahhcfgdeoaa
open Go.RowKit
set_option linter.unusedVariables false
set_option linter.unusedSimpArgs false
attribute [-go_sem] Go.Builtin.append_

set_option maxRecDepth 100000 in
set_option maxHeartbeats 1000000 in
theorem specTrmBytes_no (ao : Option Addr) (cap : Nat) (t : List C) (w : World) (hm : t.length ≤ maxLen) (hR : Row w ao t) (hF : Fit t) (ht : trm t = false) :
    Calls Try.prog 46 #[.slice ao t.length cap] w fun e w' => ∃ v, e = .returned v ∧ OwnY w' w.heap.size v [] ∧ Below w.heap.size w w' := by
  have HT := hide (specTrmOk_any ao cap t w hm hR hF)
  rw [ht] at HT
  go_enter Try.func46, Try.ntmps46
  go_wp2_with fail
  refine (unhide HT).mono ?_
  rintro e w1 ⟨rfl, hb1⟩
  have hO := own_lo (base' := w.heap.size) (made_noneY w1 w1.heap.size (Nat.le_refl _)) (fun j e => by have := (World.ownsRow.lt (made_noneY w1 w1.heap.size (Nat.le_refl _)) j e).1; exact Nat.le_trans hb1.size this)
  go_wp2
  go_ret
  exact ⟨_, rfl, hO, bstep hb1 (cell_below _ _)⟩

theorem specTrmBytes_any (ao : Option Addr) (cap : Nat) (t : List C) (w : World) (hm : t.length ≤ maxLen) (hR : Row w ao t) (hF : Fit t) :
    Calls Try.prog 46 #[.slice ao t.length cap] w fun e w' => ∃ v, e = .returned v ∧ OwnY w' w.heap.size v (encT t) ∧ Below w.heap.size w w' := by
  cases ht : trm t with
  | false =>
    have e : encT t = [] := by simp [encT, ht]
    rw [e]
    exact specTrmBytes_no ao cap t w hm hR hF ht
  | true =>
    have e : encT t = [(t.length : Int)] ++ encL t := by simp [encT, ht]
    rw [e]
    rcases hR with rfl | ⟨b, off, rfl, hA⟩
    · rw [trm_nil] at ht; cases ht
    · exact specTrmBytes_ok b off cap t w hA hF ht

set_option maxRecDepth 100000 in
set_option maxHeartbeats 1000000 in
theorem someStr_any (s : ByteArray) (w : World) :
    Calls Try.prog 110 #[.string s] w fun e w' => e = .returned (.agg #[.string s, .bool true]) ∧ Below w.heap.size w w' := by
  go_enter Try.func110, Try.ntmps110
  go_wp2
  exact bodyPost_ret (v := .agg #[.string s, .bool true]) (by simp [results, Try.results110, go_sem]) rfl ⟨rfl, ((Below.refl _ _).alloc (Nat.le_refl _) _)⟩

/-- The name at a place, if one stands there. -/
def nameOf (c : C) : Value := if c.k = 3 then .agg #[.string c.s, .bool true] else .agg #[.string ByteArray.empty, .bool false]

set_option maxRecDepth 100000 in
set_option maxHeartbeats 1000000 in
theorem nameAt_any (c : C) (w : World) :
    Calls Try.prog 102 #[.agg #[.int .i64 c.k, .int .i64 c.n, .string c.s]] w fun e w' => e = .returned (nameOf c) ∧ Below w.heap.size w w' := by
  by_cases h3 : c.k = 3
  · have hb : (c.k != 3) = false := by simpa using h3
    have e : nameOf c = .agg #[.string c.s, .bool true] := by simp [nameOf, h3]
    rw [e]
    clear e
    go_enter Try.func102, Try.ntmps102
    go_wp2_with fail
    refine (someStr_any c.s _).mono ?_
    rintro e w1 ⟨rfl, hb1⟩
    obtain ⟨W, hW⟩ : ∃ W, W = ((w.alloc (Obj.cells #[Value.int IntKind.i64 3, Value.int IntKind.i64 c.n, Value.string c.s] 67)).alloc (Obj.cells #[Value.string ByteArray.empty, Value.bool false] 143)) := ⟨_, rfl⟩
    replace hb1 : Below W.heap.size W w1 := by rw [hW]; exact hb1
    have hB0 : Below w.heap.size w W := by rw [hW]; exact below2 _ _ _
    have hsz : W.heap.size = w.heap.size + 2 := by rw [hW]; simp
    have c0 : W.cell? ⟨w.heap.size + 1, 0, none⟩ = some (.string ByteArray.empty) := by rw [hW]; simp [go_sem]
    have c1 : W.cell? ⟨w.heap.size + 1, 1, none⟩ = some (.bool false) := by rw [hW]; simp [go_sem]
    have f0 : W.frozen? ⟨w.heap.size + 1, 0, none⟩ = false := by rw [hW]; simp [go_sem]
    have f1 : W.frozen? ⟨w.heap.size + 1, 1, none⟩ = false := by rw [hW]; simp [go_sem]
    have d0 := (hb1.cell (p := ⟨w.heap.size + 1, 0, none⟩) (by simp; omega)).trans c0
    have d1 := (hb1.cell (p := ⟨w.heap.size + 1, 1, none⟩) (by simp; omega)).trans c1
    have g0 := (hb1.frozen (p := ⟨w.heap.size + 1, 0, none⟩) (by simp; omega)).trans f0
    have g1 := (hb1.frozen (p := ⟨w.heap.size + 1, 1, none⟩) (by simp; omega)).trans f1
    have hB1 := bstep hB0 hb1
    clear c0 c1 f0 f1 hW hb1 hB0 hsz
    go_wp2
    refine bodyPost_ret (v := .agg #[.string c.s, .bool true]) (by simp [results, Try.results102, go_sem, *]) rfl ⟨rfl, ?_⟩
    exact (hB1.setCell (p := ⟨w.heap.size + 1, 0, none⟩) (by simp) _).setCell (p := ⟨w.heap.size + 1, 1, none⟩) (by simp) _
  · have hb : (c.k != 3) = true := by simpa using h3
    have e : nameOf c = .agg #[.string ByteArray.empty, .bool false] := by simp [nameOf, h3]
    rw [e]
    clear e
    go_enter Try.func102, Try.ntmps102
    go_wp2
    exact bodyPost_ret (v := .agg #[.string ByteArray.empty, .bool false]) (by simp [results, Try.results102, go_sem]; rfl) rfl ⟨rfl, below2 _ _ _⟩

set_option maxRecDepth 100000 in
set_option maxHeartbeats 8000000 in
theorem appendTerm_any (base : Nat) (v : Value) (z : List Int) (b off cap : Nat) (t : List C) (w : World) (hO : OwnY w base v z) (hb : base ≤ w.heap.size) (hz : z.length ≤ 4000) (hA : At w b off t) (hbb : b < base) (hok : ∀ c ∈ t, okC c = true) (hl40 : t.length ≤ 40) :
    Calls Try.prog 75 #[v, .slice (some ⟨b, off, none⟩) t.length cap] w fun e w' => ∃ v', e = .returned v' ∧ OwnY w' base v' (z ++ ([(t.length : Int)] ++ encL t)) ∧ Below base w w' := by
  have HOK := hide hok
  obtain ⟨v0, w0, r0, o0, g0⟩ := app_one w base v z (t.length : Int) hO hb (by omega)
  have B0 : Below base w w0 := g0.below hO hb
  clear hok hO g0
  go_enter Try.func75, Try.ntmps75
  go_wp2
  go_loopw [0, 16] (fun o i wr => ∃ (k : Nat), k ≤ t.length ∧ i = .int .i64 k ∧ OwnY wr base o (z ++ [(t.length : Int)] ++ encL (t.take k)) ∧ Below base w wr) (fun _ i _ => t.length - (intOf i).toNat)
  case atStart => exact ⟨0, Nat.zero_le _, rfl, by simpa [encL] using o0, B0⟩
  case round =>
    obtain ⟨k, hk, rfl, hown, hB⟩ := hrel
    by_cases hlt : k < t.length
    · have hok := okC_parts (unhide HOK _ (List.getElem_mem hlt))
      have hz : (z ++ [(t.length : Int)] ++ encL (t.take k)).length ≤ 5000 := by
        have := encL_length (t.take k) (fun c hc => unhide HOK c (List.mem_of_mem_take hc))
        simp at this
        simp
        omega
      have hcc : ∀ o : Nat, wr.cell? ⟨b, off + k * 3 + o, none⟩ = w.cell? ⟨b, off + k * 3 + o, none⟩ := fun o => hB.cell (p := ⟨b, off + k * 3 + o, none⟩) hbb
      have c0 : wr.cell? ⟨b, off + k * 3, none⟩ = _ := (hcc 0).trans (hA k hlt).1
      have c1 := (hcc 1).trans (hA k hlt).2.1
      have c2 := (hcc 2).trans (hA k hlt).2.2
      have HS := hide (encL_take hlt)
      obtain ⟨c, hc⟩ : ∃ c, c = t[k] := ⟨_, rfl⟩
      rw [← hc] at c0 c1 c2 HS hok
      clear hc hcc
      obtain ⟨z', hzz⟩ : ∃ z', z' = z ++ [(t.length : Int)] ++ encL (t.take k) := ⟨_, rfl⟩
      rw [← hzz] at hown hz
      have HZ := hide hzz
      clear hzz
      have hwb : base ≤ wr.heap.size := Nat.le_trans hb hB.size
      have hp : u0.ownBlock ≠ some wr.heap.size := fun e => by have := (World.ownsRow.lt hown _ e).2; omega
      go_wp2_with fail
      obtain ⟨W, hW⟩ : ∃ W, W = wr.alloc (.cells #[.int .i64 c.k, .int .i64 c.n, .string c.s] 67) := ⟨_, rfl⟩
      have p0 : W.cell? ⟨wr.heap.size, 0, none⟩ = some (.int .i64 c.k) := by rw [hW]; simp [go_sem]
      have p1 : W.cell? ⟨wr.heap.size, 1, none⟩ = some (.int .i64 c.n) := by rw [hW]; simp [go_sem]
      have p2 : W.cell? ⟨wr.heap.size, 2, none⟩ = some (.string c.s) := by rw [hW]; simp [go_sem]
      have hpl : wr.heap.size < W.heap.size := World.block_lt_of_cell? W ⟨_, _, none⟩ p0
      have oW : OwnY W base u0 z' := by rw [hW]; exact World.ownsRow.alloc hown _
      have BW : Below base w W := by rw [hW]; exact hB.alloc hwb _
      have hWb : base ≤ W.heap.size := by omega
      rw [← hW]
      clear hW
      generalize wr.heap.size = p at hp p0 p1 p2 hpl ⊢
      clear hown hB hwb c0 c1 c2
      obtain ⟨v1, w3, r1, o1, g1⟩ := app_one W.drew base u0 z' c.k (World.ownsRow.drew oW) hWb (by omega)
      have r1' : Sem.run Try.prog (Builtin.append_ #[45, 45] 45 #[u0, .slice (some ⟨W.heap.size, 0, none⟩) 1 1]) (W.alloc (.cells #[.int .u8 c.k] 5)).drew = .ok v1 w3 := r1
      have B3 : Below base w w3 := BW.drew.trans (g1.below (World.ownsRow.drew oW) hWb)
      have g1c : ∀ o : Nat, w3.cell? ⟨p, o, none⟩ = W.cell? ⟨p, o, none⟩ := fun o => g1.cell (a := ⟨p, o, none⟩) hpl hp
      have q0 := (g1c 0).trans p0
      have q1 := (g1c 1).trans p1
      have q2 := (g1c 2).trans p2
      have a1 : (W.alloc (.cells #[.int .u8 c.k] 5)).cell? ⟨p, 1, none⟩ = some (.int .i64 c.n) := ((cell_below W (.cells #[.int .u8 c.k] 5)).cell (p := ⟨p, 1, none⟩) hpl).trans p1
      have hp1 : v1.ownBlock ≠ some p := fun e => by
        rcases g1.2 p e with h' | h'
        · exact hp h'
        · have h'' : W.heap.size ≤ p := h'
          omega
      have HN := hide (appendNumber_any base v1 (z' ++ [c.k]) c.n w3 o1 (Nat.le_trans hb B3.size) (by simp; omega) (by omega) (by omega))
      have HG := hide (And.intro B3 (And.intro o1 hp1))
      have hk8 : IntKind.u8.wrap c.k = c.k := by rw [IntKind.wrap_u8]; omega
      have hpl3 : p < w3.heap.size := World.block_lt_of_cell? w3 ⟨_, _, none⟩ q0
      clear oW BW g1 B3 o1 r1 g1c hp1 hp HOK o0 r0 B0 hA
      go_region_with (go_at_call 76; refine (unhide HN).mono ?_; rintro e w4 ⟨v2, rfl, o2, g2⟩)
      all_goals
        obtain ⟨B3, o1, hp1⟩ := unhide HG
        have B4 : Below base w w4 := B3.trans (g2.below o1 (Nat.le_trans hb B3.size))
        have hb4 : base ≤ w4.heap.size := Nat.le_trans hb B4.size
        have s0 := (g2.cell (a := ⟨p, 0, none⟩) hpl3 hp1).trans q0
        have s1 := (g2.cell (a := ⟨p, 1, none⟩) hpl3 hp1).trans q1
        have s2 := (g2.cell (a := ⟨p, 2, none⟩) hpl3 hp1).trans q2
        clear HG HN p0 p1 p2 q0 q1 q2 a1 r1' hpl hpl3 g2 B3 o1 hp1
        go_wp2_with fail
        refine (nameAt_any c _).mono ?_
        rintro e w5 ⟨rfl, hb5⟩
        have O5 : OwnY w5 base v2 (z' ++ [c.k] ++ num3 c.n) := o2.below hb5
        have B5 : Below base w w5 := B4.trans (hb5.mono hb4)
        have hq : v2.ownBlock ≠ some w5.heap.size := fun e => by have := (World.ownsRow.lt O5 _ e).2; omega
        have hb5' : base ≤ w5.heap.size := Nat.le_trans hb B5.size
        clear s0 s1 s2 o2 B4 hb5
        by_cases h3 : c.k = 3
        · have en : nameOf c = .agg #[.string c.s, .bool true] := by simp [nameOf, h3]
          rw [en]
          clear en
          go_wp2_with fail
          obtain ⟨W6, hW6⟩ : ∃ W6, W6 = w5.alloc (.cells #[.string c.s, .bool true] 143) := ⟨_, rfl⟩
          have x0 : W6.cell? ⟨w5.heap.size, 0, none⟩ = some (.string c.s) := by rw [hW6]; simp [go_sem]
          have hql : w5.heap.size < W6.heap.size := World.block_lt_of_cell? W6 ⟨_, _, none⟩ x0
          have O6 : OwnY W6 base v2 (z' ++ [c.k] ++ num3 c.n) := by rw [hW6]; exact World.ownsRow.alloc O5 _
          have B6 : Below base w W6 := by rw [hW6]; exact B5.alloc hb5' _
          have hb6 : base ≤ W6.heap.size := by omega
          rw [← hW6]
          clear hW6 O5 B5
          generalize w5.heap.size = q at hq x0 hql ⊢
          have hs8 : c.s.size ≤ 8 := hok.2.2.2
          have hz2 : (z' ++ [c.k] ++ num3 c.n).length ≤ 5010 := by rw [List.length_append, List.length_append, num3_length]; simp; omega
          obtain ⟨v3, w7, r3, o3, g3⟩ := app_one W6.drew base v2 (z' ++ [c.k] ++ num3 c.n) (c.s.size : Int) (World.ownsRow.drew O6) hb6 (by omega)
          have r3' : Sem.run Try.prog (Builtin.append_ #[45, 45] 45 #[v2, .slice (some ⟨W6.heap.size, 0, none⟩) 1 1]) (W6.alloc (.cells #[.int .u8 (c.s.size : Int)] 5)).drew = .ok v3 w7 := r3
          have B7 : Below base w w7 := B6.drew.trans (g3.below (World.ownsRow.drew O6) hb6)
          obtain ⟨v4, w8, r4, o4, g4⟩ := app_str w7 base v3 _ c.s o3 (Nat.le_trans hb B7.size) (by rw [List.length_append]; simp only [List.length_cons, List.length_nil]; omega)
          have B8 : Below base w w8 := B7.grown g4 (Nat.le_trans hb B7.size) (fun j e => (World.ownsRow.lt o3 j e).1)
          have y0 : w7.cell? ⟨q, 0, none⟩ = some (.string c.s) := (g3.cell (a := ⟨q, 0, none⟩) hql hq).trans x0
          have t0 : (W6.alloc (.cells #[.int .u8 (c.s.size : Int)] 5)).cell? ⟨q, 0, none⟩ = some (.string c.s) := ((cell_below W6 (.cells #[.int .u8 (c.s.size : Int)] 5)).cell (p := ⟨q, 0, none⟩) hql).trans x0
          have hw8 : IntKind.u8.wrap (c.s.size : Int) = (c.s.size : Int) := by rw [IntKind.wrap_u8]; omega
          have HF : Hid (OwnY w8 base v4 (z ++ [(t.length : Int)] ++ encL (t.take (k + 1))) ∧ Below base w w8) := by
            refine ⟨?_, B8⟩
            rw [unhide HS, ← List.append_assoc, ← unhide HZ]
            simpa [encC, h3, List.append_assoc] using o4
          clear r3 o3 g3 o4 g4 O6 B6 B7 B8 HS HZ hz2 hz hok hk8
          go_region
          all_goals go_wp2
          all_goals go_roundw
          case rel => exact ⟨k + 1, by omega, by go_num, (unhide HF).1, (unhide HF).2⟩
          case measure => simp [intOf]; omega
        · have en : nameOf c = .agg #[.string ByteArray.empty, .bool false] := by simp [nameOf, h3]
          rw [en]
          clear en
          have HF : Hid (OwnY (w5.alloc (.cells #[.string ByteArray.empty, .bool false] 143)) base v2 (z ++ [(t.length : Int)] ++ encL (t.take (k + 1))) ∧ Below base w (w5.alloc (.cells #[.string ByteArray.empty, .bool false] 143))) := by
            refine ⟨World.ownsRow.alloc (show OwnY w5 base v2 _ from ?_) _, B5.alloc hb5' _⟩
            rw [unhide HS, ← List.append_assoc, ← unhide HZ]
            simpa [encC, h3, List.append_assoc] using O5
          clear O5 B5 HS HZ hz hok hk8
          go_wp2
          go_roundw
          case rel => exact ⟨k + 1, by omega, by go_num, (unhide HF).1, (unhide HF).2⟩
          case measure => simp [intOf]; omega
    · go_wp2
      go_ret
      rw [List.take_of_length_le (by omega), List.append_assoc] at hown
      exact ⟨_, rfl, hown, hB⟩
end Go.Proofs.Ytonpahhcfgdeoaa
