import Derived.Test.YtonpahhcfgdeoaaQW2W3W4W6SB2
import Derived.Test.YtonpahhcfgdeoaaQW13SB1
import Derived.Laws.Bits64
/- The walks of toSubBindS, eqSubBind(S). -/
namespace Go.Proofs.Ytonpahhcfgdeoaa
open Go.RowKit
set_option linter.unusedVariables false
set_option linter.unusedSimpArgs false

theorem Try.infoSub : (Try.prog.info? 124).map (fun i => (i.zero, i.size, i.bytes)) = some (some (.agg #[.int .i64 0, .slice none 0 0]), 2, 32) := by kernel_rfl

theorem set2_take (xs : List Value) (k : Nat) (a b : Value) (h : k * 2 + 2 ≤ xs.length) :
    ((xs.set (k * 2) a).set (k * 2 + 1) b).take ((k + 1) * 2) = xs.take (k * 2) ++ [a, b] := by
  apply List.ext_getElem?
  intro i
  rw [List.getElem?_take]
  by_cases h1 : i < k * 2
  · rw [if_pos (by omega), List.getElem?_append_left (by simp; omega), List.getElem?_set_ne (by omega), List.getElem?_set_ne (by omega), List.getElem?_take, if_pos h1]
  · rw [List.getElem?_append_right (by simp; omega)]
    have hl : (xs.take (k * 2)).length = k * 2 := by simp; omega
    rw [hl]
    by_cases e0 : i = k * 2
    · subst e0; rw [if_pos (by omega), List.getElem?_set_ne (by omega), List.getElem?_set_self (by omega)]; simp
    by_cases e1 : i = k * 2 + 1
    · subst e1; rw [if_pos (by omega), List.getElem?_set_self (by simp; omega)]; simp [show k * 2 + 1 - k * 2 = 1 by omega]
    · rw [if_neg (by omega), List.getElem?_eq_none (by simp; omega)]

/-- How far toSubBindS has come. -/
def ToB (w : World) (s : List B) (k : Nat) (wr : World) : Prop := ∃ xs us, wr.ownsRow w.heap.size 124 2 (.slice (some ⟨w.heap.size, 0, none⟩) s.length s.length) s.length xs ∧ us.length = k ∧ xs.take (k * 2) = flatB (s.take k) us ∧
    (∀ i, (h : i < s.length) → (h' : i < us.length) → OwnC wr w.heap.size us[i] s[i].t) ∧ (us.filterMap Value.ownBlock).Nodup ∧ (∀ u ∈ us, ∀ j, u.ownBlock = some j → w.heap.size < j ∧ j < wr.heap.size) ∧ Below w.heap.size w wr

theorem toB_round {w wr w1 : World} {s : List B} {k g : Nat} (hk : k < s.length) (hT : ToB w s k wr) (hb1 : Below wr.heap.size wr w1) (hgl : g < w1.heap.size)
    (ho : w1.ownsRow wr.heap.size 67 3 (.slice (some ⟨g, 0, none⟩) s[k].t.length s[k].t.length) s[k].t.length (flat s[k].t)) :
    (∃ a b, w1.cell? ⟨w.heap.size, k * 2, none⟩ = some a ∧ w1.cell? ⟨w.heap.size, k * 2 + 1, none⟩ = some b) ∧ (w1.frozen? ⟨w.heap.size, k * 2, none⟩ = false ∧ w1.frozen? ⟨w.heap.size, k * 2 + 1, none⟩ = false) ∧
    ToB w s (k + 1) ((w1.setCell ⟨w.heap.size, k * 2, none⟩ (.int .i64 s[k].v)).setCell ⟨w.heap.size, k * 2 + 1, none⟩ (.slice (some ⟨g, 0, none⟩) s[k].t.length s[k].t.length)) := by
  obtain ⟨xs, us, h1, h2, h3, h4, h5, h6, h7⟩ := hT
  have hl : xs.length = s.length * 2 := h1.1
  have hgw : wr.heap.size ≤ g := (ho.lt g rfl).1
  have hsz : w.heap.size < wr.heap.size := (h1.lt _ rfl).2
  have o1 := own_below h1 hb1
  have s1 := o1.stored (k * 2) (.int .i64 s[k].v)
  have s2 := s1.1.stored (k * 2 + 1) (.slice (some ⟨g, 0, none⟩) s[k].t.length s[k].t.length)
  have hblk : ∀ j, j ≠ w.heap.size → ((w1.setCell ⟨w.heap.size, k * 2, none⟩ (.int .i64 s[k].v)).setCell ⟨w.heap.size, k * 2 + 1, none⟩ (.slice (some ⟨g, 0, none⟩) s[k].t.length s[k].t.length)).heap[j]? = w1.heap[j]? := fun j hj => by
    rw [Below.heap_setCell _ _ _ _ hj, Below.heap_setCell _ _ _ _ hj]
  refine ⟨⟨_, _, (o1.cellAt (k * 2) (by omega)).trans (List.getElem?_eq_getElem (by omega)), (o1.cellAt (k * 2 + 1) (by omega)).trans (List.getElem?_eq_getElem (by omega))⟩, ⟨o1.frozenAt _, o1.frozenAt _⟩, ?_⟩
  refine ⟨_, us ++ [.slice (some ⟨g, 0, none⟩) s[k].t.length s[k].t.length], s2.1, by simp [h2], ?_, fun i hi hi' => ?_, ?_, fun u hu j e => ?_, ?_⟩
  · rw [set2_take xs k _ _ (by omega), h3, List.take_succ_eq_append_getElem hk, flatB_append _ _ _ _ (by simp; omega)]
    rfl
  · by_cases e : i < us.length
    · rw [List.getElem_append_left e]
      refine own_block (own_below (h4 i hi e) hb1) (fun j ej => hblk j ?_)
      have := h6 _ (List.getElem_mem e) j ej
      omega
    · obtain rfl : i = k := by simp at hi'; omega
      rw [List.getElem_append_right (by omega)]
      simp only [h2, Nat.sub_self, List.getElem_cons_zero]
      refine own_lo (own_block ho (fun j ej => hblk j ?_)) (fun j ej => ?_)
      · have : g = j := by simpa [Value.ownBlock] using ej
        omega
      · have : g = j := by simpa [Value.ownBlock] using ej
        omega
  · rw [List.filterMap_append, List.nodup_append]
    refine ⟨h5, by simp [Value.ownBlock], fun a ha b hb => ?_⟩
    obtain ⟨u, hu, e⟩ := List.mem_filterMap.1 ha
    have := h6 u hu a e
    simp [Value.ownBlock] at hb
    omega
  · have hs2 : ((w1.setCell ⟨w.heap.size, k * 2, none⟩ (.int .i64 s[k].v)).setCell ⟨w.heap.size, k * 2 + 1, none⟩ (.slice (some ⟨g, 0, none⟩) s[k].t.length s[k].t.length)).heap.size = w1.heap.size := by simp
    rw [hs2]
    have := hb1.size
    rcases List.mem_append.1 hu with hu | hu
    · have := h6 u hu j e
      omega
    · simp at hu
      subst hu
      have : g = j := by simpa [Value.ownBlock] using e
      omega
  · exact ((h7.trans (hb1.mono (by omega))).setCell (p := ⟨w.heap.size, _, none⟩) (Nat.le_refl _) _).setCell (p := ⟨w.heap.size, _, none⟩) (Nat.le_refl _) _

theorem toB_end {w wr : World} {s : List B} (hT : ToB w s s.length wr) : OwnB wr w.heap.size wr.heap.size (.slice (some ⟨w.heap.size, 0, none⟩) s.length s.length) s ∧ Below w.heap.size w wr := by
  obtain ⟨xs, us, h1, h2, h3, h4, h5, h6, h7⟩ := hT
  have hl := h1.1
  have hlt : w.heap.size < wr.heap.size := (h1.lt _ rfl).2
  rw [List.take_of_length_le (by omega), List.take_of_length_le (by omega)] at h3
  refine ⟨⟨us, h2, by rw [← h3]; exact h1, h4, h5, fun u hu k e => (h6 u hu k e).2, fun k e => ?_⟩, h7⟩
  have : w.heap.size = k := by simpa [Value.ownBlock] using e
  omega

set_option maxRecDepth 100000 in
set_option maxHeartbeats 400000 in
theorem eqSubBind_yes (v : Int) (ao bo : Option Addr) (cap cap' : Nat) (t : List C) (w : World) (hm : t.length ≤ maxLen) (hA : Row w ao t) (hU : Row w bo t) :
    Calls Try.prog 117 #[.agg #[.int .i64 v, .slice ao t.length cap], .agg #[.int .i64 v, .slice bo t.length cap']] w fun e w' => e = .returned (.bool true) ∧ Below w.heap.size w w' := by
  have hne : (v != v) = false := by simp
  go_enter Try.func117, Try.ntmps117
  go_wp2_with fail
  refine (eqTrmCellS_any ao bo cap cap' t t _ hm (hA.below (below2 _ _ _)) (hU.below (below2 _ _ _))).mono ?_
  rw [sameS_yes rfl]
  rintro e w1 ⟨rfl, hb1⟩
  have hB := bstep (below2 _ _ _) hb1
  go_wp2
  go_ret
  exact ⟨rfl, hB⟩

set_option maxRecDepth 100000 in
set_option maxHeartbeats 1000000 in
theorem eqSubBindS_some (b off cap b' off' cap' : Nat) (s : List B) (w : World) (hm : s.length ≤ maxLen) (hA : AtB w b off s) (hU : AtB w b' off' s) :
    Calls Try.prog 112 #[.slice (some ⟨b, off, none⟩) s.length cap, .slice (some ⟨b', off', none⟩) s.length cap'] w fun e w' => e = .returned (.bool true) ∧ Below w.heap.size w w' := by
  unfold maxLen at hm
  have hne : ((s.length : Int) != (s.length : Int)) = false := by simp
  go_enter Try.func112, Try.ntmps112
  go_wp2
  go_loopw [5] (fun i wr => ∃ (k : Nat), k ≤ s.length ∧ i = .int .i64 k ∧ Below w.heap.size w wr) (fun i _ => s.length - (intOf i).toNat)
  case atStart => exact ⟨0, Nat.zero_le _, rfl, Below.refl _ _⟩
  case round =>
    obtain ⟨k, hk, rfl, hB⟩ := hrel
    by_cases hlt : k < s.length
    · obtain ⟨c0, ao, cp, c1, hc, hcm, hR⟩ := (hA.below hB) k hlt
      obtain ⟨d0, bo, cp', d1, hc', hcm', hR'⟩ := (hU.below hB) k hlt
      obtain ⟨y, hy⟩ : ∃ y, y = s[k] := ⟨_, rfl⟩
      rw [← hy] at c0 c1 d0 d1 hR hR' hc
      clear hy
      have hml : y.t.length ≤ maxLen := by omega
      clear hc hcm hc' hcm'
      have HR := hide hR
      have HR' := hide hR'
      clear hR hR'
      go_wp2
      go_region_with (go_at_call 117; refine (eqSubBind_yes y.v ao bo cp cp' y.t _ hml (by exact unhide HR) (by exact unhide HR')).mono ?_; rintro e w1 ⟨rfl, hb1⟩)
      all_goals go_wp2
      all_goals go_roundw
      all_goals first | exact ⟨k + 1, by omega, by go_num, bstep hB.drew (by assumption)⟩ | (simp [intOf]; omega)
    · go_wp2
      go_ret
      exact ⟨rfl, hB⟩

set_option maxRecDepth 100000 in
set_option maxHeartbeats 400000 in
theorem eqSubBindS_none (ao bo : Option Addr) (cap cap' : Nat) (w : World) :
    Calls Try.prog 112 #[.slice ao 0 cap, .slice bo 0 cap'] w fun e w' => e = .returned (.bool true) ∧ Below w.heap.size w w' := by
  go_enter Try.func112, Try.ntmps112
  go_wp2
  refine wp_loop_rounds 1 ?_
  rw [rounds_succ]
  go_wp2
  go_ret
  exact ⟨rfl, Below.refl _ _⟩

theorem eqSubBindS_yes (ao bo : Option Addr) (cap cap' : Nat) (s : List B) (w : World) (hm : s.length ≤ maxLen) (hA : RowB w ao s) (hU : RowB w bo s) :
    Calls Try.prog 112 #[.slice ao s.length cap, .slice bo s.length cap'] w fun e w' => e = .returned (.bool true) ∧ Below w.heap.size w w' := by
  rcases hA with rfl | ⟨b, off, rfl, hA⟩
  · exact eqSubBindS_none ao bo cap cap' w
  · rcases hU with rfl | ⟨b', off', rfl, hU⟩
    · exact eqSubBindS_none _ bo cap cap' w
    · exact eqSubBindS_some b off cap b' off' cap' s w hm hA hU
end Go.Proofs.Ytonpahhcfgdeoaa

/- The reader by which the laws draw: l20Open, pick, odd. What it draws is not told, only its bounds. -/
namespace Go.Proofs.Ytonpahhcfgdeoaa
open Go.RowKit
set_option linter.unusedVariables false
set_option linter.unusedSimpArgs false

/-- Bytes lie behind a slice. -/
def Byt (w : World) (R : Nat) (ao : Option Addr) (len : Nat) (z : Nat → Int) : Prop :=
  (∀ i, 0 ≤ z i ∧ z i ≤ 255) ∧ (len = 0 ∨ ∃ b off, ao = some ⟨b, off, none⟩ ∧ b < R ∧ ∀ i, i < len → w.cell? ⟨b, off + i, none⟩ = some (.int .u8 (z i)))

theorem xor_i64_nat (a b : Nat) (ha : a < 9223372036854775808) (hb : b < 9223372036854775808) : bits .xor .i64 (a : Int) (b : Int) = ((a ^^^ b : Nat) : Int) := by
  have hx : a ^^^ b < 2 ^ 63 := Nat.xor_lt_two_pow (by omega) (by omega)
  have h1 : (BitVec.ofInt 64 (a : Int)).toNat = a := by
    rw [BitVec.ofInt_natCast, BitVec.toNat_ofNat]; exact Nat.mod_eq_of_lt (by omega)
  have h2 : (BitVec.ofInt 64 (b : Int)).toNat = b := by
    rw [BitVec.ofInt_natCast, BitVec.toNat_ofNat]; exact Nat.mod_eq_of_lt (by omega)
  show IntKind.i64.wrap ((BitVec.ofInt 64 (a : Int) ^^^ BitVec.ofInt 64 (b : Int)).toNat : Int) = _
  rw [BitVec.toNat_xor, h1, h2]
  simp [IntKind.wrap, IntKind.bits, IntKind.signed]
  omega

theorem xor_nonneg {x : Int} (h0 : 0 ≤ x) (h1 : x < 9223372036854775808) : 0 ≤ bits .xor .i64 x (x / 64) := by
  obtain ⟨a, rfl⟩ := Int.eq_ofNat_of_zero_le h0
  rw [show ((a : Int) / 64) = ((a / 64 : Nat) : Int) by omega, xor_i64_nat a (a / 64) (by omega) (by omega)]
  omega

theorem draw_in {x n : Int} (h0 : 0 ≤ x) (h1 : x < 9223372036854775808) (hn : 1 ≤ n) : 0 ≤ (bits .xor .i64 x (x / 64)).tmod n ∧ (bits .xor .i64 x (x / 64)).tmod n < n :=
  ⟨Int.tmod_nonneg _ (xor_nonneg h0 h1), Int.tmod_lt_of_pos _ (by omega)⟩

theorem grown_alloc (w : World) (o : Obj) (row : Option Nat) : w.grownBy (w.alloc o) row := World.grownBy_alloc w o row

/-- Numbers written out in a new block. -/
theorem lit_ints (W : World) (xs : List Int) (t : TypeId) (i : Nat) (h : i < xs.length) : (W.alloc (.cells (xs.map (Value.int .i64)).toArray t)).cell? ⟨W.heap.size, i, none⟩ = some (.int .i64 xs[i]) := by
  rw [World.cell?_alloc_at _ _ _ _ rfl]
  simp [h]
theorem lit_strs (W : World) (xs : List ByteArray) (t : TypeId) (i : Nat) (h : i < xs.length) : (W.alloc (.cells (xs.map Value.string).toArray t)).cell? ⟨W.heap.size, i, none⟩ = some (.string xs[i]) := by
  rw [World.cell?_alloc_at _ _ _ _ rfl]
  simp [h]

/-- A place that was drawn: within bounds. -/
def Dc (c : C) : Prop := 0 ≤ c.k ∧ c.k ≤ 4 ∧ -1000000 ≤ c.n ∧ c.n ≤ 1000000 ∧ c.s.size ≤ 11
/-- A place of a term that was drawn: within narrower bounds. -/
def Ds (c : C) : Prop := 0 ≤ c.k ∧ c.k ≤ 4 ∧ -10000 ≤ c.n ∧ c.n ≤ 10000 ∧ c.s.size ≤ 11
theorem Ds.dc {c : C} (h : Ds c) : Dc c := by obtain ⟨h1, h2, h3, h4, h5⟩ := h; exact ⟨h1, h2, by omega, by omega, h5⟩
end Go.Proofs.Ytonpahhcfgdeoaa

/- What is drawn: a place (l20Leaf). -/
namespace Go.Proofs.Ytonpahhcfgdeoaa
open Go.RowKit
set_option linter.unusedVariables false
set_option linter.unusedSimpArgs false

theorem pick_lit {W w2 : World} {R : Nat} {xs : List Int} {t : TypeId} {j : Nat} (hR : R < W.heap.size) (hg : (W.alloc (.cells (xs.map (Value.int .i64)).toArray t)).grownBy w2 (some R)) (h : j < xs.length) : w2.cell? ⟨W.heap.size, j, none⟩ = some (.int .i64 xs[j]) :=
  hg.cell (lit_ints W xs t j h) (by simp; omega)
theorem pick_lits {W w2 : World} {R : Nat} {xs : List ByteArray} {t : TypeId} {j : Nat} (hR : R < W.heap.size) (hg : (W.alloc (.cells (xs.map Value.string).toArray t)).grownBy w2 (some R)) (h : j < xs.length) : w2.cell? ⟨W.heap.size, j, none⟩ = some (.string xs[j]) :=
  hg.cell (lit_strs W xs t j h) (by simp; omega)

theorem ds_mk {k n : Int} {s : ByteArray} (h0 : 0 ≤ k) (h1 : k ≤ 4) (h2 : -10000 ≤ n) (h3 : n ≤ 10000) (h4 : s.size ≤ 11) : Ds ⟨k, n, s⟩ := ⟨h0, h1, h2, h3, h4⟩
theorem dc_mk {k n : Int} {s : ByteArray} (h0 : 0 ≤ k) (h1 : k ≤ 4) (h2 : -1000000 ≤ n) (h3 : n ≤ 1000000) (h4 : s.size ≤ 11) : Dc ⟨k, n, s⟩ := ⟨h0, h1, h2, h3, h4⟩

theorem grown_set {w w' : World} {row : Option Nat} (h : w.grownBy w' row) {p : Addr} (hp : w.heap.size ≤ p.block) (v : Value) : w.grownBy (w'.setCell p v) row :=
  ⟨h.os, h.tape, h.output, by simpa [World.setCell] using h.size, fun k hk hn => (Below.heap_setCell w' p v k (by omega)).trans (h.block k hk hn)⟩
theorem grown_first {w w' : World} {o : Obj} {row : Option Nat} (h : (w.alloc o).grownBy w' row) : w.grownBy w' row := grown_trans (grown_alloc w o row) h
/-- The three cells of a struct result, behind what was done since. -/
theorem res_cells {W w1 : World} {R : Nat} (hR : R < W.heap.size) (hG : (W.alloc (.cells #[.int .i64 0, .int .i64 0, .string ByteArray.empty] 67)).grownBy w1 (some R)) :
    w1.heap[W.heap.size]? = some (.cells #[.int .i64 0, .int .i64 0, .string ByteArray.empty] 67 (0, 0)) := by
  rw [hG.block W.heap.size (by simp) (by simp; omega)]
  exact heap_alloc_new W _

theorem agg_cells {w : World} {B : Nat} {a b c : Value} (h : w.heap[B]? = some (.cells #[a, b, c] 67 (0, 0))) :
    w.cell? ⟨B, 0, none⟩ = some a ∧ w.cell? ⟨B, 1, none⟩ = some b ∧ w.cell? ⟨B, 2, none⟩ = some c ∧ w.frozen? ⟨B, 0, none⟩ = false ∧ w.frozen? ⟨B, 1, none⟩ = false ∧ w.frozen? ⟨B, 2, none⟩ = false := by
  simp [World.cell?, World.frozen?, h]

end Go.Proofs.Ytonpahhcfgdeoaa
