import Derived.Test.YtkedckmpjedjoaaQW5
import Derived.Test.YtkedckmpjedjoaaQW1Mem2Mem3W9
import Derived.Lib.SmallJoins
import Derived.Laws.BytesString
import Derived.Test.YtkedckmpjedjoaaQW11W12
/- The walks of markText, markTrmCellS, heldTrmCellS. -/
namespace Go.Proofs.Ytkedckmpjedjoaa
open Go.RowKit
set_option linter.unusedVariables false
set_option linter.unusedSimpArgs false

theorem ret_str {a b : ByteArray} (h : a = b) : Ending.returned (.string a) = .returned (.string b) := by rw [h]

def digs : Nat → Nat → List UInt8 → List UInt8
  | 0, _, acc => acc
  | f + 1, k, acc => if k = 0 then acc else digs f (k / 10) ((48 + UInt8.ofNat (k % 10)) :: acc)

theorem digs_more : ∀ (f k : Nat) (acc : List UInt8), k ≤ f → digs (f + 1) k acc = digs f k acc
  | 0, k, acc, h => by
      have : k = 0 := by omega
      subst this; rfl
  | f + 1, k, acc, h => by
      by_cases hk : k = 0
      · subst hk; simp [digs]
      · have ih := digs_more f (k / 10) ((48 + UInt8.ofNat (k % 10)) :: acc) (by omega)
        rw [digs, if_neg hk, ih, digs, if_neg hk]

theorem digs_fuel (f g k : Nat) (acc : List UInt8) (h : k ≤ f) (hg : f ≤ g) : digs g k acc = digs f k acc := by
  induction g with
  | zero => have : f = 0 := by omega
            subst this; rfl
  | succ g ih =>
    by_cases e : f = g + 1
    · subst e; rfl
    · rw [digs_more g k acc (by omega), ih (by omega)]

theorem digs_step (k : Nat) (acc : List UInt8) (h : 0 < k) : digs k k acc = digs (k / 10) (k / 10) ((48 + UInt8.ofNat (k % 10)) :: acc) := by
  cases k with
  | zero => omega
  | succ m => rw [digs, if_neg (by omega), digs_fuel ((m + 1) / 10) m _ _ (Nat.le_refl _) (by omega)]

/-- The text of a mark. -/
def mtext (k : Nat) : ByteArray := ⟨(109 :: digs k k []).toArray⟩

/-- 'string([]byte{x})', the one byte in a block that was just made. -/
theorem conv1 (W : World) (x : Int) : (convert 51 9 (.slice (some ⟨W.heap.size, 0, none⟩) 1 1)).run Try.prog (W.alloc (.cells #[.int .u8 x] 5)) = .ok (.string ⟨#[UInt8.ofNat x.toNat]⟩) (W.alloc (.cells #[.int .u8 x] 5)) := by
  rw [run_convert_bytes_string _ 51 9 5 _ 1 1 Try.underlying51 Try.underlying5 Try.underlying9]
  have hl := run_loadCells_list (P := Try.prog) (W.alloc (.cells #[.int .u8 x] 5)) ⟨W.heap.size, 0, none⟩ ([x].map (Value.int .u8)) (fun j v hj => by
    have hj' : j < 1 := by have := (List.getElem?_eq_some_iff.1 hj).1; simpa using this
    have h0 : j = 0 := by omega
    subst h0
    simp at hj
    subst hj
    simp [Addr.add, go_sem])
  simp only [List.length_map, List.length_cons, List.length_nil, Nat.zero_add] at hl
  rw [run_bytesToString _ _ 1 1 [x] hl]
  rfl

set_option maxRecDepth 100000 in
set_option maxHeartbeats 1000000 in
theorem markText_any (k : Nat) (w : World) (h1 : 1 ≤ k) (h2 : k ≤ 16777216) :
    Calls Try.prog 66 #[.int .i64 k] w fun e w' => e = .returned (.string (mtext k)) ∧ Below w.heap.size w w' := by
  go_enter Try.func66, Try.ntmps66
  go_wp2
  go_loopw [0, 3] (fun i o wr => ∃ (j : Nat) (out : ByteArray), j + out.size ≤ k ∧ i = .int .i64 j ∧ o = .string out ∧ digs k k [] = digs j j out.data.toList ∧ Below w.heap.size w wr) (fun i _ _ => (intOf i).toNat)
  case atStart => exact ⟨k, ⟨#[]⟩, Nat.le_refl _, rfl, rfl, rfl, Below.refl _ _⟩
  case round =>
    obtain ⟨j, out, hj, rfl, rfl, hd, hB⟩ := hrel
    have HD := hide hd
    clear hd
    by_cases hp : 0 < j
    · have hcv := conv1 wr
      go_wp2
      go_roundw
      case rel =>
        refine ⟨j / 10, _, ?_, by go_num, rfl, ?_, hB.alloc hB.size _⟩
        · rw [ByteArray.size_append]; have : (ByteArray.mk #[48 + UInt8.ofNat (j % 10)]).size = 1 := rfl; omega
        · rw [unhide HD, digs_step j _ hp]
          rw [Joins.data_append]; rfl
      case measure => simp [intOf]; omega
    · go_wp2
      go_ret
      refine ⟨?_, hB⟩
      have h0 : j = 0 := by omega
      have := unhide HD
      rw [h0] at this
      refine ret_str (bytes_ext ?_)
      rw [Joins.data_append]
      unfold mtext
      rw [this]
      rfl

theorem markText_int (x : Int) (w : World) (h1 : 1 ≤ x) (h2 : x ≤ 16777216) :
    Calls Try.prog 66 #[.int .i64 x] w fun e w' => e = .returned (.string (mtext x.toNat)) ∧ Below w.heap.size w w' := by
  obtain ⟨k, rfl⟩ := Int.eq_ofNat_of_zero_le (show 0 ≤ x by omega)
  rw [Int.toNat_natCast]
  exact markText_any k w (by omega) (by omega)

/-- What markTrmCellS writes. -/
def marksC (n k : Nat) : List C := (List.range n).map fun i => ⟨((k + 3 * i : Nat) : Int), ((k + 3 * i + 1 : Nat) : Int), mtext (k + 3 * i + 2)⟩

theorem marksC_length (n k : Nat) : (marksC n k).length = n := by simp [marksC]
theorem marksC_get {n k i : Nat} (h : i < (marksC n k).length) : (marksC n k)[i] = ⟨((k + 3 * i : Nat) : Int), ((k + 3 * i + 1 : Nat) : Int), mtext (k + 3 * i + 2)⟩ := by simp [marksC]
theorem marksC_succ (n k : Nat) : marksC (n + 1) k = marksC n k ++ [⟨((k + 3 * n : Nat) : Int), ((k + 3 * n + 1 : Nat) : Int), mtext (k + 3 * n + 2)⟩] := by simp [marksC, List.range_succ]

/-- What a round of markTrmCellS leaves. -/
theorem mark_round {w wr w3 : World} {g n cap j k base : Nat} {xs : List Value} (hj : j < n)
    (hown : wr.ownsRow base 98 3 (.slice (some ⟨g, 0, none⟩) n cap) n xs) (hx : xs.take (j * 3) = flat (marksC j k)) (hG : w.grownBy wr (some g))
    (u0 u1 : Int) (e0 : u0 = ((k + 3 * j : Nat) : Int)) (e1 : u1 = ((k + 3 * j + 1 : Nat) : Int))
    (hb3 : Below ((wr.setCell ⟨g, j * 3, none⟩ (.int .i64 u0)).setCell ⟨g, j * 3 + 1, none⟩ (.int .i64 u1)).heap.size ((wr.setCell ⟨g, j * 3, none⟩ (.int .i64 u0)).setCell ⟨g, j * 3 + 1, none⟩ (.int .i64 u1)) w3) :
    (∃ a, w3.cell? ⟨g, j * 3 + 2, none⟩ = some a) ∧ w3.frozen? ⟨g, j * 3 + 2, none⟩ = false ∧
    ∃ xs', (w3.setCell ⟨g, j * 3 + 2, none⟩ (.string (mtext (k + 3 * j + 2)))).ownsRow base 98 3 (.slice (some ⟨g, 0, none⟩) n cap) n xs' ∧
      xs'.take ((j + 1) * 3) = flat (marksC (j + 1) k) ∧ w.grownBy (w3.setCell ⟨g, j * 3 + 2, none⟩ (.string (mtext (k + 3 * j + 2)))) (some g) := by
  subst e0 e1
  have s1 := hown.stored (j * 3) (.int .i64 ((k + 3 * j : Nat) : Int))
  have s2 := s1.1.stored (j * 3 + 1) (.int .i64 ((k + 3 * j + 1 : Nat) : Int))
  have o3 := own_kept s2.1 hb3
  have s4 := o3.stored (j * 3 + 2) (.string (mtext (k + 3 * j + 2)))
  have hl : xs.length = n * 3 := hown.1
  refine ⟨⟨_, (o3.cellAt (j * 3 + 2) (by omega)).trans (List.getElem?_eq_getElem (by simp; omega))⟩, o3.frozenAt _, _, s4.1, ?_, ?_⟩
  · rw [set3_take xs j _ _ _ (by omega), hx, marksC_succ, flat_append]
    rfl
  · exact grown_trans (grown_trans (grown_trans (grown_trans hG s1.2) s2.2) (grown_below hb3)) s4.2

set_option maxHeartbeats 1000000 in
theorem markTrmCellS_some (g cap : Nat) (t : List C) (k base : Nat) (w : World) (hm : t.length ≤ 1048576) (hk1 : 1 ≤ k) (hk : k ≤ 4194304) (hA : w.ownsRow base 98 3 (.slice (some ⟨g, 0, none⟩) t.length cap) t.length (flat t)) :
    Calls Try.prog 22 #[.slice (some ⟨g, 0, none⟩) t.length cap, .int .i64 k] w fun e w' => e = .returned (.int .i64 ((k + 3 * t.length : Nat) : Int)) ∧
      w'.ownsRow base 98 3 (.slice (some ⟨g, 0, none⟩) t.length cap) t.length (flat (marksC t.length k)) ∧ w.grownBy w' (some g) := by
  go_enter Try.func22, Try.ntmps22
  go_wp2
  go_loopw [1, 5] (fun m i wr => ∃ (j : Nat) (xs : List Value), j ≤ t.length ∧ i = .int .i64 j ∧ m = .int .i64 ((k + 3 * j : Nat) : Int) ∧ wr.ownsRow base 98 3 (.slice (some ⟨g, 0, none⟩) t.length cap) t.length xs ∧ xs.take (j * 3) = flat (marksC j k) ∧ w.grownBy wr (some g)) (fun _ i _ => t.length - (intOf i).toNat)
  case atStart => exact ⟨0, _, Nat.zero_le _, rfl, by simp, hA, by simp [flat, marksC], grown_refl _ _⟩
  case round =>
    obtain ⟨j, xs, hj, rfl, rfl, hown, hx, hG⟩ := hrel
    have HX := hide hx
    have hl := hown.1
    clear hx
    by_cases hlt : j < t.length
    · have d0 : wr.cell? ⟨g, j * 3, none⟩ = some (xs[j * 3]'(by omega)) := by rw [hown.cellAt _ (by omega)]; exact List.getElem?_eq_getElem _
      have d1 : wr.cell? ⟨g, j * 3 + 1, none⟩ = some (xs[j * 3 + 1]'(by omega)) := by rw [hown.cellAt _ (by omega)]; exact List.getElem?_eq_getElem _
      obtain ⟨u, hu⟩ : ∃ u, u = xs[j * 3]'(by omega) := ⟨_, rfl⟩
      rw [← hu] at d0
      clear hu
      obtain ⟨u', hu⟩ : ∃ u, u = xs[j * 3 + 1]'(by omega) := ⟨_, rfl⟩
      rw [← hu] at d1
      clear hu
      have f0 := hown.frozenAt (j * 3)
      have f1 := hown.frozenAt (j * 3 + 1)
      have HO := hide hown
      clear hl hown
      go_wp2_with fail
      refine (markText_int _ _ (by omega) (by omega)).mono ?_
      rintro e w3 ⟨rfl, hb3⟩
      rw [show ((k : Int) + 3 * (j : Int) + 1 + 1).toNat = k + 3 * j + 2 from by omega]
      have R := mark_round hlt (unhide HO) (unhide HX) hG _ _ (by omega) (by omega) hb3
      obtain ⟨⟨u2, d2⟩, f2, R⟩ := R
      have HR := hide R
      clear R d0 d1 f0 f1
      go_wp2
      go_roundw
      case rel =>
        obtain ⟨xs', r1, r2, r3⟩ := unhide HR
        exact ⟨j + 1, xs', by omega, by go_num, by go_num, r1, r2, r3⟩
      case measure => simp [intOf]; omega
    · go_wp2
      go_ret
      have hjl : j = t.length := by omega
      refine ⟨ret_int (by omega), ?_, hG⟩
      have := unhide HX
      rw [List.take_of_length_le (by omega), hjl] at this
      rw [← this]
      exact hown

set_option maxHeartbeats 400000 in
theorem markTrmCellS_none (ao : Option Addr) (cap : Nat) (k : Int) (w : World) :
    Calls Try.prog 22 #[.slice ao 0 cap, .int .i64 k] w fun e w' => e = .returned (.int .i64 k) ∧ w' = w := by
  go_enter Try.func22, Try.ntmps22
  go_wp2
  refine wp_loop_rounds 1 ?_
  rw [rounds_succ]
  go_wp2
  go_ret
  exact ⟨rfl, rfl⟩

theorem markTrmCellS_any (ao : Option Addr) (cap : Nat) (t : List C) (k base : Nat) (w : World) (hm : t.length ≤ 1048576) (hk1 : 1 ≤ k) (hk : k ≤ 4194304) (hA : OwnC w base (.slice ao t.length cap) t) :
    Calls Try.prog 22 #[.slice ao t.length cap, .int .i64 k] w fun e w' => e = .returned (.int .i64 ((k + 3 * t.length : Nat) : Int)) ∧
      OwnC w' base (.slice ao t.length cap) (marksC t.length k) ∧ w.grownBy w' (Value.slice ao t.length cap).ownBlock := by
  unfold OwnC at hA ⊢
  rw [marksC_length]
  by_cases h0 : t.length = 0
  · have hz : t = [] := List.length_eq_zero_iff.1 h0
    subst hz
    refine (markTrmCellS_none ao cap k w).mono ?_
    rintro e w' ⟨rfl, rfl⟩
    exact ⟨ret_int (by simp), hA, grown_refl _ _⟩
  · rcases hA.2 with ⟨e, hn⟩ | ⟨g, cap', cur, e, _⟩
    · exact absurd hn h0
    · simp only [Value.slice.injEq] at e
      obtain ⟨rfl, _, rfl⟩ := e
      exact markTrmCellS_some g cap t k base w hm hk1 hk hA

set_option maxHeartbeats 1000000 in
theorem heldTrmCellS_some (b off cap n k : Nat) (w : World) (hm : n ≤ 1048576) (hk1 : 1 ≤ k) (hk : k ≤ 4194304) (hA : At w b off (marksC n k)) :
    Calls Try.prog 40 #[.slice (some ⟨b, off, none⟩) n cap, .int .i64 k] w fun e w' => e = .returned (.int .i64 ((k + 3 * n : Nat) : Int)) ∧ Below w.heap.size w w' := by
  go_enter Try.func40, Try.ntmps40
  go_wp2
  go_loopw [1, 5] (fun m i wr => ∃ (j : Nat), j ≤ n ∧ i = .int .i64 j ∧ m = .int .i64 ((k + 3 * j : Nat) : Int) ∧ Below w.heap.size w wr) (fun _ i _ => n - (intOf i).toNat)
  case atStart => exact ⟨0, Nat.zero_le _, rfl, by simp, Below.refl _ _⟩
  case round =>
    obtain ⟨j, hj, rfl, rfl, hB⟩ := hrel
    by_cases hlt : j < n
    · obtain ⟨d0, d1, d2⟩ := (hA.below hB) j (by simpa [marksC] using hlt)
      rw [marksC_get] at d0 d1 d2
      simp only at d0 d1 d2
      obtain ⟨s, hs⟩ : ∃ s, s = mtext (k + 3 * j + 2) := ⟨_, rfl⟩
      rw [← hs] at d2
      have HS := hide hs
      clear hs
      have hst : (s.toList == s.toList) = true := by simp
      have hbl : b < wr.heap.size := World.block_lt_of_cell? wr ⟨b, _, none⟩ d2
      go_wp2
      go_region_with (go_at_call 66; refine (markText_int _ _ (by omega) (by omega)).mono ?_; rw [show ((k : Int) + 3 * (j : Int) + 1 + 1).toNat = k + 3 * j + 2 from by omega, ← unhide HS]; rintro e w1 ⟨rfl, hb1⟩; have q2 := (hb1.cell (p := ⟨b, off + j * 3 + 2, none⟩) (by simpa using hbl)).trans (by simpa using d2))
      all_goals go_wp2
      all_goals go_roundw
      all_goals first | exact ⟨j + 1, by omega, by go_num, by go_num, bstep hB.drew (by assumption)⟩ | (simp [intOf]; omega)
    · go_wp2
      go_ret
      exact ⟨ret_int (by omega), hB⟩
end Go.Proofs.Ytkedckmpjedjoaa

/- numberVars and TrmFree of whatever places; heldTrmCellS of whatever row; small laws on what is owned. -/
namespace Go.Proofs.Ytkedckmpjedjoaa
open Go.RowKit Go.Maps
set_option linter.unusedVariables false
set_option linter.unusedSimpArgs false

theorem OwnI.row {w : World} {base n cap : Nat} {ao : Option Addr} {z : List Int} (h : OwnI w base (.slice ao n cap) z) : RowI w ao z := by
  obtain ⟨ao', cap', e, hR⟩ := h.shape
  simp only [Value.slice.injEq] at e
  obtain ⟨rfl, _, _⟩ := e
  exact hR
theorem OwnC.row {w : World} {base n cap : Nat} {ao : Option Addr} {t : List C} (h : OwnC w base (.slice ao n cap) t) : Row w ao t := by
  obtain ⟨ao', cap', e, hR⟩ := h.shape
  simp only [Value.slice.injEq] at e
  obtain ⟨rfl, _, _⟩ := e
  exact hR

set_option maxHeartbeats 1000000 in
theorem numberVars_none (ao : Option Addr) (cap : Nat) (w : World) :
    Calls Try.prog 138 #[.slice ao 0 cap] w fun e w' => ∃ v, e = .returned (.tuple #[v, .map (some w.heap.size)]) ∧ OwnI w' (w.heap.size + 1) v (freeOf []) ∧
      (∃ D n, n ≤ 0 ∧ w'.ownsMap Try.prog 3 (plainElem Try.prog 3) w.heap.size n D ∧ Tab (freeOf []) D) ∧ Below w.heap.size w w' := by
  have hmm := @run_makeMap Try.prog
  go_enter Try.func138, Try.ntmps138
  go_wp2
  refine wp_loop_rounds 1 ?_
  rw [rounds_succ]
  go_wp2
  go_ret2
  exact ⟨_, rfl, World.ownsRow_nil _ _ _ _, ⟨_, 0, Nat.le_refl _, World.ownsMap_made _ _ _ _, tab_nil⟩, cell_below _ _⟩

theorem numberVars_any (ao : Option Addr) (cap : Nat) (t : List C) (w : World) (hm : t.length ≤ 1048576) (hA : Row w ao t) (hw : WfC t) :
    Calls Try.prog 138 #[.slice ao t.length cap] w fun e w' => ∃ v, e = .returned (.tuple #[v, .map (some w.heap.size)]) ∧ OwnI w' (w.heap.size + 1) v (freeOf t) ∧
      (∃ D n, n ≤ t.length ∧ w'.ownsMap Try.prog 3 (plainElem Try.prog 3) w.heap.size n D ∧ Tab (freeOf t) D) ∧ Below w.heap.size w w' := by
  rcases hA with rfl | ⟨b, off, rfl, hA⟩
  · exact numberVars_none ao cap w
  · exact numberVars_some b off cap t w hm hA hw

theorem OwnI.base {w : World} {base base' : Nat} {v : Value} {z : List Int} (h : OwnI w base v z) (hb : base' ≤ base) : OwnI w base' v z := by
  refine ⟨h.1, ?_⟩
  rcases h.2 with h2 | ⟨g, cap, cur, e, hg, r⟩
  · exact .inl h2
  · exact .inr ⟨g, cap, cur, e, Nat.le_trans hb hg, r⟩

/-- The program's TrmFree, of whatever places. -/
theorem TrmFree_any (ao : Option Addr) (cap : Nat) (t : List C) (w : World) (hm : t.length ≤ 1048576) (hA : Row w ao t) (hw : WfC t) :
    Calls Try.prog 155 #[.slice ao t.length cap] w fun e w' => ∃ v, e = .returned v ∧ OwnI w' w.heap.size v (freeOf t) ∧ Below w.heap.size w w' := by
  go_enter Try.func155, Try.ntmps155
  go_wp2_with fail
  refine (numberVars_any ao cap t _ hm hA hw).mono ?_
  rintro e w1 ⟨v, rfl, hO, _, hb1⟩
  have hO' := hO.base (Nat.le_succ _)
  go_wp2
  go_ret
  exact ⟨_, rfl, hO', hb1⟩

theorem heldTrmCellS_none (ao : Option Addr) (cap : Nat) (k : Int) (w : World) :
    Calls Try.prog 40 #[.slice ao 0 cap, .int .i64 k] w fun e w' => e = .returned (.int .i64 k) ∧ w' = w := by
  go_enter Try.func40, Try.ntmps40
  go_wp2
  refine wp_loop_rounds 1 ?_
  rw [rounds_succ]
  go_wp2
  go_ret
  exact ⟨rfl, rfl⟩

theorem heldTrmCellS_any (ao : Option Addr) (cap n k : Nat) (w : World) (hm : n ≤ 1048576) (hk1 : 1 ≤ k) (hk : k ≤ 4194304) (hA : Row w ao (marksC n k)) :
    Calls Try.prog 40 #[.slice ao n cap, .int .i64 k] w fun e w' => e = .returned (.int .i64 ((k + 3 * n : Nat) : Int)) ∧ Below w.heap.size w w' := by
  rcases hA with h | ⟨b, off, rfl, hA⟩
  · have hn : n = 0 := by have := congrArg List.length h; simpa [marksC_length] using this
    subst hn
    refine (heldTrmCellS_none ao cap k w).mono ?_
    rintro e w' ⟨rfl, rfl⟩
    exact ⟨ret_int (by simp), Below.refl _ _⟩
  · exact heldTrmCellS_some b off cap n k w hm hk1 hk hA

/-- A write into a row that was made since: what lay ahead is as it was. -/
theorem below_row {a w w' : World} {base e size n : Nat} {v : Value} {xs : List Value} (h : Below a.heap.size a w) (hg : w.grownBy w' v.ownBlock) (ho : w.ownsRow base e size v n xs) (hb : a.heap.size ≤ base) : Below a.heap.size a w' :=
  h.grown hg h.size (fun k e => Nat.le_trans hb (ho.lt k e).1)

/-! Marks from 1 on, as the laws set them. -/

theorem markTrmCellS_one (ao : Option Addr) (cap : Nat) (t : List C) (base : Nat) (w : World) (hm : t.length ≤ 1048576) (hA : OwnC w base (.slice ao t.length cap) t) :
    Calls Try.prog 22 #[.slice ao t.length cap, .int .i64 1] w fun e w' => e = .returned (.int .i64 (1 + 3 * (t.length : Int))) ∧
      OwnC w' base (.slice ao t.length cap) (marksC t.length 1) ∧ w.grownBy w' (Value.slice ao t.length cap).ownBlock := by
  have h := markTrmCellS_any ao cap t 1 base w hm (by omega) (by omega) hA
  rw [show (((1 + 3 * t.length : Nat) : Int)) = 1 + 3 * (t.length : Int) by omega] at h
  exact h
theorem heldTrmCellS_one (ao : Option Addr) (cap n : Nat) (w : World) (hm : n ≤ 1048576) (hA : Row w ao (marksC n 1)) :
    Calls Try.prog 40 #[.slice ao n cap, .int .i64 1] w fun e w' => e = .returned (.int .i64 (1 + 3 * (n : Int))) ∧ Below w.heap.size w w' := by
  have h := heldTrmCellS_any ao cap n 1 w hm (by omega) (by omega) hA
  rw [show (((1 + 3 * n : Nat) : Int)) = 1 + 3 * (n : Int) by omega] at h
  exact h
end Go.Proofs.Ytkedckmpjedjoaa
