import Derived.Test.YtonpahhcfgdeoaaDoorQW13SB1Plain2YB3Z0
import Derived.Laws.Bits64
import Derived.Test.YtonpahhcfgdeoaaDoorQZ4W15
import Derived.Test.YtonpahhcfgdeoaaDoorQPB4PB5SB2SB3
import Derived.WalkSpells
/- The reader by which the laws draw: l20Open, pick, odd. What it draws is not told, only its bounds. -/
namespace Go.Proofs.YtonpahhcfgdeoaaDoor
open Go.RowKit
set_option linter.unusedVariables false
set_option linter.unusedSimpArgs false

/-- Bytes lie behind a slice. -/
def Byt (w : World) (R : Nat) (ao : Option Addr) (len : Nat) (z : Nat → Int) : Prop :=
  (∀ i, 0 ≤ z i ∧ z i ≤ 255) ∧ (len = 0 ∨ ∃ b off, ao = some ⟨b, off, none⟩ ∧ b < R ∧ ∀ i, i < len → w.cell? ⟨b, off + i, none⟩ = some (.int .u8 (z i)))

theorem xor_i64_nat (a b : Nat) (ha : a < 9223372036854775808) (hb : b < 9223372036854775808) : bits .xor .i64 (a : Int) (b : Int) = ((a ^^^ b : Nat) : Int) := by
  have hx : a ^^^ b < 2 ^ 63 := Nat.xor_lt_two_pow (by omega) (by omega)
  have h1 : (BitVec.ofInt 64 (a : Int)).toNat = a := by
    rw [BitVec.ofInt_natCast, BitVec.toNat_ofNat]; exact Nat.mod_eq_of_lt (by omega)
  have h2 : (BitVec.ofInt 64 (b : Int)).toNat = b := by
    rw [BitVec.ofInt_natCast, BitVec.toNat_ofNat]; exact Nat.mod_eq_of_lt (by omega)
  show IntKind.i64.wrap ((BitVec.ofInt 64 (a : Int) ^^^ BitVec.ofInt 64 (b : Int)).toNat : Int) = _
  rw [BitVec.toNat_xor, h1, h2]
  simp [IntKind.wrap, IntKind.bits, IntKind.signed]
  omega

theorem xor_nonneg {x : Int} (h0 : 0 ≤ x) (h1 : x < 9223372036854775808) : 0 ≤ bits .xor .i64 x (x / 64) := by
  obtain ⟨a, rfl⟩ := Int.eq_ofNat_of_zero_le h0
  rw [show ((a : Int) / 64) = ((a / 64 : Nat) : Int) by omega, xor_i64_nat a (a / 64) (by omega) (by omega)]
  omega

theorem draw_in {x n : Int} (h0 : 0 ≤ x) (h1 : x < 9223372036854775808) (hn : 1 ≤ n) : 0 ≤ (bits .xor .i64 x (x / 64)).tmod n ∧ (bits .xor .i64 x (x / 64)).tmod n < n :=
  ⟨Int.tmod_nonneg _ (xor_nonneg h0 h1), Int.tmod_lt_of_pos _ (by omega)⟩

theorem grown_alloc (w : World) (o : Obj) (row : Option Nat) : w.grownBy (w.alloc o) row := World.grownBy_alloc w o row

/-- Numbers written out in a new block. -/
theorem lit_ints (W : World) (xs : List Int) (t : TypeId) (i : Nat) (h : i < xs.length) : (W.alloc (.cells (xs.map (Value.int .i64)).toArray t)).cell? ⟨W.heap.size, i, none⟩ = some (.int .i64 xs[i]) := by
  rw [World.cell?_alloc_at _ _ _ _ rfl]
  simp [h]
theorem lit_strs (W : World) (xs : List ByteArray) (t : TypeId) (i : Nat) (h : i < xs.length) : (W.alloc (.cells (xs.map Value.string).toArray t)).cell? ⟨W.heap.size, i, none⟩ = some (.string xs[i]) := by
  rw [World.cell?_alloc_at _ _ _ _ rfl]
  simp [h]

/-- A place that was drawn: within bounds. -/
def Dc (c : C) : Prop := 0 ≤ c.k ∧ c.k ≤ 4 ∧ -1000000 ≤ c.n ∧ c.n ≤ 1000000 ∧ c.s.size ≤ 11
/-- A place of a term that was drawn: within narrower bounds. -/
def Ds (c : C) : Prop := 0 ≤ c.k ∧ c.k ≤ 4 ∧ -10000 ≤ c.n ∧ c.n ≤ 10000 ∧ c.s.size ≤ 11
theorem Ds.dc {c : C} (h : Ds c) : Dc c := by obtain ⟨h1, h2, h3, h4, h5⟩ := h; exact ⟨h1, h2, by omega, by omega, h5⟩
end Go.Proofs.YtonpahhcfgdeoaaDoor

/- What is drawn: a place (l20Leaf). -/
namespace Go.Proofs.YtonpahhcfgdeoaaDoor
open Go.RowKit
set_option linter.unusedVariables false
set_option linter.unusedSimpArgs false

theorem pick_lit {W w2 : World} {R : Nat} {xs : List Int} {t : TypeId} {j : Nat} (hR : R < W.heap.size) (hg : (W.alloc (.cells (xs.map (Value.int .i64)).toArray t)).grownBy w2 (some R)) (h : j < xs.length) : w2.cell? ⟨W.heap.size, j, none⟩ = some (.int .i64 xs[j]) :=
  hg.cell (lit_ints W xs t j h) (by simp; omega)
theorem pick_lits {W w2 : World} {R : Nat} {xs : List ByteArray} {t : TypeId} {j : Nat} (hR : R < W.heap.size) (hg : (W.alloc (.cells (xs.map Value.string).toArray t)).grownBy w2 (some R)) (h : j < xs.length) : w2.cell? ⟨W.heap.size, j, none⟩ = some (.string xs[j]) :=
  hg.cell (lit_strs W xs t j h) (by simp; omega)

theorem ds_mk {k n : Int} {s : ByteArray} (h0 : 0 ≤ k) (h1 : k ≤ 4) (h2 : -10000 ≤ n) (h3 : n ≤ 10000) (h4 : s.size ≤ 11) : Ds ⟨k, n, s⟩ := ⟨h0, h1, h2, h3, h4⟩
theorem dc_mk {k n : Int} {s : ByteArray} (h0 : 0 ≤ k) (h1 : k ≤ 4) (h2 : -1000000 ≤ n) (h3 : n ≤ 1000000) (h4 : s.size ≤ 11) : Dc ⟨k, n, s⟩ := ⟨h0, h1, h2, h3, h4⟩

theorem grown_set {w w' : World} {row : Option Nat} (h : w.grownBy w' row) {p : Addr} (hp : w.heap.size ≤ p.block) (v : Value) : w.grownBy (w'.setCell p v) row :=
  ⟨h.os, h.tape, h.output, by simpa [World.setCell] using h.size, fun k hk hn => (Below.heap_setCell w' p v k (by omega)).trans (h.block k hk hn)⟩
theorem grown_first {w w' : World} {o : Obj} {row : Option Nat} (h : (w.alloc o).grownBy w' row) : w.grownBy w' row := grown_trans (grown_alloc w o row) h
/-- The three cells of a struct result, behind what was done since. -/
theorem res_cells {W w1 : World} {R : Nat} (hR : R < W.heap.size) (hG : (W.alloc (.cells #[.int .i64 0, .int .i64 0, .string ByteArray.empty] 55)).grownBy w1 (some R)) :
    w1.heap[W.heap.size]? = some (.cells #[.int .i64 0, .int .i64 0, .string ByteArray.empty] 55 (0, 0)) := by
  rw [hG.block W.heap.size (by simp) (by simp; omega)]
  exact heap_alloc_new W _

theorem agg_cells {w : World} {B : Nat} {a b c : Value} (h : w.heap[B]? = some (.cells #[a, b, c] 55 (0, 0))) :
    w.cell? ⟨B, 0, none⟩ = some a ∧ w.cell? ⟨B, 1, none⟩ = some b ∧ w.cell? ⟨B, 2, none⟩ = some c ∧ w.frozen? ⟨B, 0, none⟩ = false ∧ w.frozen? ⟨B, 1, none⟩ = false ∧ w.frozen? ⟨B, 2, none⟩ = false := by
  simp [World.cell?, World.frozen?, h]

end Go.Proofs.YtonpahhcfgdeoaaDoor

/- What is drawn: places of a term (l20Term). -/
namespace Go.Proofs.YtonpahhcfgdeoaaDoor
open Go.RowKit
set_option linter.unusedVariables false
set_option linter.unusedSimpArgs false

/-- How long a slice value is: for a loop's measure. -/
def lenV : Value → Nat
  | .slice _ n _ => n
  | _ => 0

theorem own_setc {w : World} {base e size n : Nat} {v : Value} {xs : List Value} (h : w.ownsRow base e size v n xs) {p : Addr} (hp : ∀ k, v.ownBlock = some k → k ≠ p.block) (u : Value) : (w.setCell p u).ownsRow base e size v n xs := by
  refine h.kept (row := some p.block) ⟨rfl, rfl, rfl, by simp [World.setCell], fun k hk hn => Below.heap_setCell w p u k (fun e => hn (by rw [e]))⟩ ?_
  cases hv : v.ownBlock with
  | none => exact .inl rfl
  | some k => exact .inr (fun e => hp k hv (by simpa using e))

theorem grown_own {w W w5 : World} {R : Nat} {o : Obj} {v : Value} (h : w.grownBy W (some R)) (hg : (W.alloc o).grownBy w5 v.ownBlock) (hv : ∀ k, v.ownBlock = some k → w.heap.size ≤ k) : w.grownBy w5 (some R) := by
  have h1 := grown_trans h (grown_alloc W o (some R))
  exact ⟨hg.os.trans h1.os, hg.tape.trans h1.tape, hg.output.trans h1.output, Nat.le_trans h1.size hg.size, fun k hk hn => (hg.block k (Nat.lt_of_lt_of_le hk h1.size) (fun e => by have := hv k e.symm; omega)).trans (h1.block k hk hn)⟩

theorem lenV_own {w : World} {base : Nat} {v : Value} {t : List C} (h : OwnC w base v t) : lenV v = t.length := by
  obtain ⟨ao, cap, rfl, _⟩ := h.shape
  rfl

theorem all_snoc {P : C → Prop} {t : List C} {c : C} (h : ∀ d ∈ t, P d) (hc : P c) : ∀ d ∈ t ++ [c], P d := fun d hd => by
  rcases List.mem_append.1 hd with h' | h'
  · exact h d h'
  · simp at h'; subst h'; exact hc

theorem size3 (w : World) (a b c : Addr) (x y z : Value) : (((w.setCell a x).setCell b y).setCell c z).heap.size = w.heap.size := by simp [World.setCell]

end Go.Proofs.YtonpahhcfgdeoaaDoor

/- What is drawn: places that may be no term (l20Spoil), and either (l20TermOr). -/
namespace Go.Proofs.YtonpahhcfgdeoaaDoor
open Go.RowKit
set_option linter.unusedVariables false
set_option linter.unusedSimpArgs false

theorem flat_set_k : ∀ (t : List C) (k : Nat) (h : k < t.length) (x : Int), (flat t).set (k * 3) (.int .i64 x) = flat (t.set k ⟨x, t[k].n, t[k].s⟩)
  | c :: t, 0, _, x => rfl
  | c :: t, k + 1, h, x => by
      have ih := flat_set_k t k (by simpa using h) x
      rw [flat_cons, show (k + 1) * 3 = k * 3 + 1 + 1 + 1 by omega, List.set_cons_succ, List.set_cons_succ, List.set_cons_succ, ih, List.set_cons_succ, flat_cons]
      rfl
theorem flat_set_n : ∀ (t : List C) (k : Nat) (h : k < t.length) (x : Int), (flat t).set (k * 3 + 1) (.int .i64 x) = flat (t.set k ⟨t[k].k, x, t[k].s⟩)
  | c :: t, 0, _, x => rfl
  | c :: t, k + 1, h, x => by
      have ih := flat_set_n t k (by simpa using h) x
      rw [flat_cons, show (k + 1) * 3 + 1 = k * 3 + 1 + 1 + 1 + 1 by omega, List.set_cons_succ, List.set_cons_succ, List.set_cons_succ, ih, List.set_cons_succ, flat_cons]
      rfl
theorem flat_set_s : ∀ (t : List C) (k : Nat) (h : k < t.length) (x : ByteArray), (flat t).set (k * 3 + 2) (.string x) = flat (t.set k ⟨t[k].k, t[k].n, x⟩)
  | c :: t, 0, _, x => rfl
  | c :: t, k + 1, h, x => by
      have ih := flat_set_s t k (by simpa using h) x
      rw [flat_cons, show (k + 1) * 3 + 2 = k * 3 + 2 + 1 + 1 + 1 by omega, List.set_cons_succ, List.set_cons_succ, List.set_cons_succ, ih, List.set_cons_succ, flat_cons]
      rfl
theorem flat_set3 (t : List C) (k : Nat) (h : k < t.length) (c : C) : (((flat t).set (k * 3) (.int .i64 c.k)).set (k * 3 + 1) (.int .i64 c.n)).set (k * 3 + 2) (.string c.s) = flat (t.set k c) := by
  rw [flat_set_k t k h, flat_set_n _ k (by simpa using h), flat_set_s _ k (by simpa using h)]
  simp

theorem flat_take (t : List C) (k : Nat) (h : k ≤ t.length) : (flat t).take (k * 3) = flat (t.take k) := by
  have e : flat t = flat (t.take k) ++ flat (t.drop k) := by rw [← flat_append, List.take_append_drop]
  rw [e, List.take_left' (by rw [flat_length]; simp; omega)]

theorem flat_one (t : List C) : ∀ u ∈ flat t, u.oneCell' = true := by
  intro u hu
  unfold flat at hu
  obtain ⟨c, _, hc⟩ := List.mem_flatMap.1 hu
  simp [cellsOf] at hc
  rcases hc with rfl | rfl | rfl <;> rfl

theorem all_set {P : C → Prop} {t : List C} {k : Nat} {c : C} (h : ∀ d ∈ t, P d) (hc : P c) : ∀ d ∈ t.set k c, P d := fun d hd => by
  rcases List.mem_or_eq_of_mem_set hd with h' | h'
  · exact h d h'
  · subst h'; exact hc

theorem At.each {w : World} {b off : Nat} {t : List C} (h : At w b off t) : ∀ j u, (flat t)[j]? = some u → w.cell? ((⟨b, off, none⟩ : Addr).add j) = some u := by
  intro j u hj
  have hl : j < t.length * 3 := by
    have := (List.getElem?_eq_some_iff.1 hj).1
    rw [flat_length] at this; exact this
  have hk : j / 3 < t.length := by omega
  have f := flat_get t (j / 3) hk
  have a := h (j / 3) hk
  have ad : (⟨b, off, none⟩ : Addr).add j = ⟨b, off + j, none⟩ := by
    unfold Addr.add
    by_cases h0 : j = 0
    · simp [h0]
    · simp [h0]
  rw [ad]
  obtain h0 | h0 | h0 : j = j / 3 * 3 ∨ j = j / 3 * 3 + 1 ∨ j = j / 3 * 3 + 2 := by omega
  · rw [h0, f.1] at hj; rw [h0, ← hj]; exact a.1
  · rw [h0, f.2.1] at hj; rw [h0, ← hj]; exact a.2.1
  · rw [h0, f.2.2] at hj; rw [h0, ← hj]; exact a.2.2

/-- A row of the call's own, behind its cut. -/
theorem own_cut {w : World} {base g cap k : Nat} {t : List C} (h : OwnC w base (.slice (some ⟨g, 0, none⟩) t.length cap) t) (hk : k ≤ t.length) : OwnC w base (.slice (some ⟨g, 0, none⟩) k cap) (t.take k) := by
  have hl : (t.take k).length = k := by simp; omega
  rcases h.2 with ⟨e, _⟩ | ⟨g', cap', cur, e, hb, hg, hn, hc, hcs, htake⟩
  · simp at e
  · simp only [Value.slice.injEq, Option.some.injEq, Addr.mk.injEq, and_true, true_and] at e
    obtain ⟨rfl, rfl⟩ := e
    unfold OwnC
    rw [hl]
    refine ⟨by rw [flat_length, hl], .inr ⟨g, cap, cur, rfl, hb, hg, by omega, hc, hcs, ?_⟩⟩
    rw [← flat_take t k hk, ← htake, List.take_take, Nat.min_eq_left (by omega)]

/-- A place of a row of the call's own. -/
theorem own_place {w : World} {base g cap k : Nat} {t : List C} (h : OwnC w base (.slice (some ⟨g, 0, none⟩) t.length cap) t) (hk : k < t.length) :
    w.cell? ⟨g, k * 3, none⟩ = some (.int .i64 t[k].k) ∧ w.cell? ⟨g, k * 3 + 1, none⟩ = some (.int .i64 t[k].n) ∧ w.cell? ⟨g, k * 3 + 2, none⟩ = some (.string t[k].s) ∧ w.frozen? ⟨g, k * 3, none⟩ = false ∧ w.frozen? ⟨g, k * 3 + 1, none⟩ = false ∧ w.frozen? ⟨g, k * 3 + 2, none⟩ = false := by
  have f := flat_get t k hk
  exact ⟨(h.cellAt (k * 3) (by omega)).trans f.1, (h.cellAt (k * 3 + 1) (by omega)).trans f.2.1, (h.cellAt (k * 3 + 2) (by omega)).trans f.2.2, h.frozenAt _, h.frozenAt _, h.frozenAt _⟩
end Go.Proofs.YtonpahhcfgdeoaaDoor

/- The walks of slices.Clone over places, and of SubGet, the specification's and the program's. -/
namespace Go.Proofs.YtonpahhcfgdeoaaDoor
open Go.RowKit
set_option linter.unusedVariables false
set_option linter.unusedSimpArgs false

theorem nilCells (w : World) (a : Option Addr) (n c : Nat) : (binOp .eql 23 (.slice a n c) (.slice none 0 0)).run Tryd.prog w = .ok (.bool a.isNone) w := Lib.run_eql_slice_nil w _ _ a n c 0 0 Tryd.underlying23

/-- None of the first k is bound as v. -/
def NotYet (s : List B) (v : Int) (k : Nat) : Prop := ∀ j, (h : j < s.length) → j < k → s[j].v ≠ v
theorem NotYet.step {s : List B} {v : Int} {k : Nat} (h : NotYet s v k) (hk : k < s.length) (hn : s[k].v ≠ v) : NotYet s v (k + 1) := fun j hj hjk => by
  by_cases e : j = k
  · subst e; exact hn
  · exact h j hj (by omega)
theorem NotYet.hit {s : List B} {v : Int} {k : Nat} (h : NotYet s v k) (hk : k < s.length) (hv : s[k].v = v) : getB s v = s[k].t := getB_hit hk hv (fun j hj => h j (by omega) hj)
theorem NotYet.all {s : List B} {v : Int} (h : NotYet s v s.length) : getB s v = [] := getB_none (fun x hx => by
  obtain ⟨j, hj, rfl⟩ := List.getElem_of_mem hx
  exact h j hj hj)

set_option maxRecDepth 100000 in
set_option maxHeartbeats 1000000 in
theorem l2Get_some (b off cap : Nat) (s : List B) (v : Int) (w : World) (hm : s.length ≤ 1048576) (hA : AtB w b off s) :
    Calls Tryd.prog 75 #[.slice (some ⟨b, off, none⟩) s.length cap, .int .i64 v] w fun e w' => ∃ ao cp, e = .returned (.slice ao (getB s v).length cp) ∧ (getB s v).length ≤ cp ∧ cp ≤ maxLen ∧ Row w' ao (getB s v) ∧ Below w.heap.size w w' := by
  go_enter Tryd.func75, Tryd.ntmps75
  go_wp2
  go_loopw [5] (fun i wr => ∃ (k : Nat), k ≤ s.length ∧ i = .int .i64 k ∧ NotYet s v k ∧ wr = w) (fun i _ => s.length - (intOf i).toNat)
  case atStart => exact ⟨0, Nat.zero_le _, rfl, fun j _ h => absurd h (Nat.not_lt_zero _), rfl⟩
  case round =>
    obtain ⟨k, hk, rfl, hN, rfl⟩ := hrel
    by_cases hlt : k < s.length
    · obtain ⟨c0, ao, cp, c1, hc, hcm, hR⟩ := hA k hlt
      have HS := hide (hN.step hlt)
      have HH := hide (hN.hit hlt)
      clear hN
      obtain ⟨y, hy⟩ : ∃ y, y = s[k] := ⟨_, rfl⟩
      rw [← hy] at c0 c1 hR HS HH hc
      clear hy
      have HC := hide hc
      have HCM := hide hcm
      have HR := hide hR
      clear hc hcm hR
      by_cases hv : y.v = v
      · have hb : (y.v == v) = true := by simpa using hv
        have HV := hide hv
        clear hv
        go_wp2
        go_ret
        exact ⟨ao, cp, by rw [unhide HH (unhide HV)]; rfl, by rw [unhide HH (unhide HV)]; exact unhide HC, unhide HCM, by rw [unhide HH (unhide HV)]; exact unhide HR, Below.refl _ _⟩
      · have hb : (y.v == v) = false := by simpa using hv
        go_wp2
        go_roundw
        case rel => exact ⟨k + 1, by omega, by go_num, unhide HS hv, by first | rfl | trivial⟩
        case measure => simp [intOf]; omega
    · have e : k = s.length := by omega
      subst e
      have HE := hide hN.all
      go_wp2
      go_ret
      exact ⟨_, 0, by rw [unhide HE]; rfl, by rw [unhide HE]; exact Nat.le_refl _, by simp [maxLen], by rw [unhide HE]; exact .inl rfl, cell_below _ _⟩

set_option maxRecDepth 100000 in
theorem l2Get_none (ao : Option Addr) (cap : Nat) (v : Int) (w : World) :
    Calls Tryd.prog 75 #[.slice ao 0 cap, .int .i64 v] w fun e w' => ∃ ao cp, e = .returned (.slice ao (getB [] v).length cp) ∧ (getB [] v).length ≤ cp ∧ cp ≤ maxLen ∧ Row w' ao (getB [] v) ∧ Below w.heap.size w w' := by
  go_enter Tryd.func75, Tryd.ntmps75
  go_wp2
  refine wp_loop_rounds 1 ?_
  rw [rounds_succ]
  go_wp2
  go_ret
  exact ⟨_, 0, rfl, Nat.le_refl _, by simp [maxLen], .inl rfl, cell_below _ _⟩

theorem l2Get_any (ao : Option Addr) (cap : Nat) (s : List B) (v : Int) (w : World) (hm : s.length ≤ 1048576) (hA : RowB w ao s) :
    Calls Tryd.prog 75 #[.slice ao s.length cap, .int .i64 v] w fun e w' => ∃ ao cp, e = .returned (.slice ao (getB s v).length cp) ∧ (getB s v).length ≤ cp ∧ cp ≤ maxLen ∧ Row w' ao (getB s v) ∧ Below w.heap.size w w' := by
  rcases hA with rfl | ⟨b, off, rfl, hA⟩
  · exact l2Get_none ao cap v w
  · exact l2Get_some b off cap s v w hm hA

end Go.Proofs.YtonpahhcfgdeoaaDoor
