/- The reader by which the laws draw: l20Open, pick, odd. What it draws is not told, only its bounds. -/
import Derived.Test.YthelpghiafbejaaDoorQW10W13
import Derived.Laws.Bits64
namespace Go.Proofs.YthelpghiafbejaaDoor
open Go.RowKit
set_option linter.unusedVariables false
set_option linter.unusedSimpArgs false

/-- Bytes lie behind a slice. -/
def Byt (w : World) (R : Nat) (ao : Option Addr) (len : Nat) (z : Nat → Int) : Prop :=
  (∀ i, 0 ≤ z i ∧ z i ≤ 255) ∧ (len = 0 ∨ ∃ b off, ao = some ⟨b, off, none⟩ ∧ b < R ∧ ∀ i, i < len → w.cell? ⟨b, off + i, none⟩ = some (.int .u8 (z i)))

/-- A reader lies in block R: p bytes have been read. -/
def Rd (w : World) (R p : Nat) : Prop :=
  ∃ ao len cap z, w.heap[R]? = some (.cells #[.slice ao len cap, .int .i64 p] 56 (0, 0)) ∧ len ≤ 2000 ∧ Byt w R ao len z

theorem xor_i64_nat (a b : Nat) (ha : a < 9223372036854775808) (hb : b < 9223372036854775808) : bits .xor .i64 (a : Int) (b : Int) = ((a ^^^ b : Nat) : Int) := by
  have hx : a ^^^ b < 2 ^ 63 := Nat.xor_lt_two_pow (by omega) (by omega)
  have h1 : (BitVec.ofInt 64 (a : Int)).toNat = a := by
    rw [BitVec.ofInt_natCast, BitVec.toNat_ofNat]; exact Nat.mod_eq_of_lt (by omega)
  have h2 : (BitVec.ofInt 64 (b : Int)).toNat = b := by
    rw [BitVec.ofInt_natCast, BitVec.toNat_ofNat]; exact Nat.mod_eq_of_lt (by omega)
  show IntKind.i64.wrap ((BitVec.ofInt 64 (a : Int) ^^^ BitVec.ofInt 64 (b : Int)).toNat : Int) = _
  rw [BitVec.toNat_xor, h1, h2]
  simp [IntKind.wrap, IntKind.bits, IntKind.signed]
  omega

theorem xor_nonneg {x : Int} (h0 : 0 ≤ x) (h1 : x < 9223372036854775808) : 0 ≤ bits .xor .i64 x (x / 64) := by
  obtain ⟨a, rfl⟩ := Int.eq_ofNat_of_zero_le h0
  rw [show ((a : Int) / 64) = ((a / 64 : Nat) : Int) by omega, xor_i64_nat a (a / 64) (by omega) (by omega)]
  omega

theorem draw_in {x n : Int} (h0 : 0 ≤ x) (h1 : x < 9223372036854775808) (hn : 1 ≤ n) : 0 ≤ (bits .xor .i64 x (x / 64)).tmod n ∧ (bits .xor .i64 x (x / 64)).tmod n < n :=
  ⟨Int.tmod_nonneg _ (xor_nonneg h0 h1), Int.tmod_lt_of_pos _ (by omega)⟩

set_option maxHeartbeats 2000000 in
theorem pick_far (R p len cap b off : Nat) (n : Int) (z : Nat → Int) (w : World) (hn : 1 ≤ n) (hn2 : n ≤ 1000000) (hp : p ≤ 1000000000) (hR : w.heap[R]? = some (.cells #[.slice (some ⟨b, off, none⟩) len cap, .int .i64 p] 56 (0, 0)))
    (hl : len ≤ 2000) (hz : ∀ i, 0 ≤ z i ∧ z i ≤ 255) (hb : b ≠ R) (hc : ∀ i, i < len → w.cell? ⟨b, off + i, none⟩ = some (.int .u8 (z i))) (h0 : 0 < len) (hlt : len ≤ p) :
    Calls Tryd.prog 19 #[.pointer (some ⟨R, 0, none⟩), .int .i64 n] w fun e w' => ∃ r nq, e = .returned (.int .i64 r) ∧ 0 ≤ r ∧ r < n ∧ w' = (w.setCell ⟨R, 1, none⟩ (.int .i64 ((p : Int) + 1))).drewN nq := by
  have e0 : w.cell? ⟨R, 0, none⟩ = some (.slice (some ⟨b, off, none⟩) len cap) := by simp [World.cell?, hR]
  have e1 : w.cell? ⟨R, 1, none⟩ = some (.int .i64 p) := by simp [World.cell?, hR]
  have f1 : w.frozen? ⟨R, 1, none⟩ = false := by simp [World.frozen?, hR]
  have hq : ∀ i, i < len → (w.setCell ⟨R, 1, none⟩ (.int .i64 ((p : Int) + 1))).cell? ⟨b, off + i, none⟩ = some (.int .u8 (z i)) := fun i hi => by
    exact (World.cell?_of_block (a := ⟨b, _, none⟩) (Below.heap_setCell w ⟨R, 1, none⟩ _ b hb)).trans (hc i hi)
  have q1 := hq (p % len) (Nat.mod_lt _ h0)
  have q2 := hq ((p * 7 + 3) % len) (Nat.mod_lt _ h0)
  have z1 := hz (p % len)
  have z2 := hz ((p * 7 + 3) % len)
  clear hq hc hR hz
  have i0 : (0 : Int) ≤ (p : Int) % (len : Int) := Int.emod_nonneg _ (by omega)
  have i1 : (p : Int) % (len : Int) < (len : Int) := Int.emod_lt_of_pos _ (by omega)
  have i2 : ((p : Int) % (len : Int)).toNat = p % len := by rw [← Int.natCast_emod, Int.toNat_natCast]
  have j0 : (0 : Int) ≤ ((p : Int) * 7 + 3) % (len : Int) := Int.emod_nonneg _ (by omega)
  have j1 : ((p : Int) * 7 + 3) % (len : Int) < (len : Int) := Int.emod_lt_of_pos _ (by omega)
  have j2 : (((p : Int) * 7 + 3) % (len : Int)).toNat = (p * 7 + 3) % len := by rw [show (p : Int) * 7 + 3 = ((p * 7 + 3 : Nat) : Int) by omega, ← Int.natCast_emod, Int.toNat_natCast]
  have k0 : (0 : Int) ≤ (p : Int) / (len : Int) := Int.ediv_nonneg (by omega) (by omega)
  have k1 : (p : Int) / (len : Int) ≤ (p : Int) := Int.ediv_le_self _ (by omega)
  have hzl : ((len : Int) == 0) = false := by rw [beq_eq_false_iff_ne]; omega
  go_enter Tryd.func19, Tryd.ntmps19
  go_wp2
  refine wp_region_quiet_lit (by kernel_rfl) (by kernel_rfl) ?_
  repeat (first | go_big_quiet_step (fail) | quiet_step (fail))
  refine wpQuiet_nil ?_
  intro _ hw'
  obtain ⟨nq, hw''⟩ := hw'
  subst hw''
  go_wp2
  go_ret
  have hr := draw_in (x := z (p % len) * 131 + z ((p * 7 + 3) % len) * 1117 + (p : Int) * 29 + (p : Int) / (len : Int) * 53) (n := n) (by omega) (by omega) hn
  exact ⟨_, nq, rfl, hr.1, hr.2, rfl⟩

set_option maxHeartbeats 1000000 in
theorem pick_near (R p len cap b off : Nat) (n : Int) (z : Nat → Int) (w : World) (hn : 1 ≤ n) (hn2 : n ≤ 1000000) (hp : p ≤ 1000000000) (hR : w.heap[R]? = some (.cells #[.slice (some ⟨b, off, none⟩) len cap, .int .i64 p] 56 (0, 0)))
    (hl : len ≤ 2000) (hz : ∀ i, 0 ≤ z i ∧ z i ≤ 255) (hb : b ≠ R) (hc : ∀ i, i < len → w.cell? ⟨b, off + i, none⟩ = some (.int .u8 (z i))) (h0 : 0 < len) (hlt : p < len) :
    Calls Tryd.prog 19 #[.pointer (some ⟨R, 0, none⟩), .int .i64 n] w fun e w' => ∃ r nq, e = .returned (.int .i64 r) ∧ 0 ≤ r ∧ r < n ∧ w' = (w.setCell ⟨R, 1, none⟩ (.int .i64 ((p : Int) + 1))).drewN nq := by
  have e0 : w.cell? ⟨R, 0, none⟩ = some (.slice (some ⟨b, off, none⟩) len cap) := by simp [World.cell?, hR]
  have e1 : w.cell? ⟨R, 1, none⟩ = some (.int .i64 p) := by simp [World.cell?, hR]
  have f1 : w.frozen? ⟨R, 1, none⟩ = false := by simp [World.frozen?, hR]
  have q1 : (w.setCell ⟨R, 1, none⟩ (.int .i64 ((p : Int) + 1))).cell? ⟨b, off + p, none⟩ = some (.int .u8 (z p)) :=
    (World.cell?_of_block (a := ⟨b, _, none⟩) (Below.heap_setCell w ⟨R, 1, none⟩ _ b hb)).trans (hc p hlt)
  have z1 := hz p
  clear hc hR hz
  have hzl : ((len : Int) == 0) = false := by rw [beq_eq_false_iff_ne]; omega
  go_enter Tryd.func19, Tryd.ntmps19
  go_wp2
  go_ret
  refine ⟨_, 0, rfl, ?_, ?_, rfl⟩
  · first | exact Int.emod_nonneg _ (by omega) | exact Int.tmod_nonneg _ (by omega)
  · first | exact Int.emod_lt_of_pos _ (by omega) | exact Int.tmod_lt_of_pos _ (by omega)

set_option maxHeartbeats 1000000 in
theorem pick_empty (R p cap : Nat) (ao : Option Addr) (n : Int) (w : World) (hn : 1 ≤ n) (hn2 : n ≤ 1000000) (hp : p ≤ 1000000000) (hR : w.heap[R]? = some (.cells #[.slice ao 0 cap, .int .i64 p] 56 (0, 0))) :
    Calls Tryd.prog 19 #[.pointer (some ⟨R, 0, none⟩), .int .i64 n] w fun e w' => ∃ r nq, e = .returned (.int .i64 r) ∧ 0 ≤ r ∧ r < n ∧ w' = (w.setCell ⟨R, 1, none⟩ (.int .i64 ((p : Int) + 1))).drewN nq := by
  have e0 : w.cell? ⟨R, 0, none⟩ = some (.slice ao 0 cap) := by simp [World.cell?, hR]
  have e1 : w.cell? ⟨R, 1, none⟩ = some (.int .i64 p) := by simp [World.cell?, hR]
  have f1 : w.frozen? ⟨R, 1, none⟩ = false := by simp [World.frozen?, hR]
  clear hR
  go_enter Tryd.func19, Tryd.ntmps19
  go_wp2
  go_ret
  exact ⟨_, 0, rfl, by omega, by omega, rfl⟩

theorem rd_next {w : World} {R p nq : Nat} (h : Rd w R p) : Rd ((w.setCell ⟨R, 1, none⟩ (.int .i64 ((p : Int) + 1))).drewN nq) R (p + 1) ∧ w.grownBy ((w.setCell ⟨R, 1, none⟩ (.int .i64 ((p : Int) + 1))).drewN nq) (some R) := by
  obtain ⟨ao, len, cap, z, hR, hl, hz, hB⟩ := h
  have hblk : ∀ k, k ≠ R → ((w.setCell ⟨R, 1, none⟩ (.int .i64 ((p : Int) + 1))).drewN nq).heap[k]? = w.heap[k]? := fun k hk => Below.heap_setCell w ⟨R, 1, none⟩ _ k hk
  constructor
  · refine ⟨ao, len, cap, z, ?_, hl, hz, ?_⟩
    · have := heap_setCell_same w R 1 _ _ (.int .i64 ((p : Int) + 1)) hR
      show (w.setCell ⟨R, 1, none⟩ (.int .i64 ((p : Int) + 1))).heap[R]? = _
      rw [this]
      simp
    · rcases hB with h0 | ⟨b, off, e, hb, hc⟩
      · exact .inl h0
      · exact .inr ⟨b, off, e, hb, fun i hi => (World.cell?_of_block (a := ⟨b, _, none⟩) (hblk b (by omega))).trans (hc i hi)⟩
  · exact ⟨rfl, rfl, rfl, by simp [World.setCell, World.drewN], fun k hk hn => hblk k (fun e => hn (by rw [e]))⟩

/-- What pick draws: a number within its bound; the reader has gone on by one. -/
theorem pick_any (R p : Nat) (n : Int) (w : World) (hn : 1 ≤ n) (hn2 : n ≤ 1000000) (hp : p ≤ 1000000000) (h : Rd w R p) :
    Calls Tryd.prog 19 #[.pointer (some ⟨R, 0, none⟩), .int .i64 n] w fun e w' => ∃ r, e = .returned (.int .i64 r) ∧ 0 ≤ r ∧ r < n ∧ Rd w' R (p + 1) ∧ w.grownBy w' (some R) := by
  have hN := fun nq => rd_next (nq := nq) h
  obtain ⟨ao, len, cap, z, hR, hl, hz, hB⟩ := h
  have fin : ∀ (e : Ending) (w' : World), (∃ r nq, e = .returned (.int .i64 r) ∧ 0 ≤ r ∧ r < n ∧ w' = (w.setCell ⟨R, 1, none⟩ (.int .i64 ((p : Int) + 1))).drewN nq) → ∃ r, e = .returned (.int .i64 r) ∧ 0 ≤ r ∧ r < n ∧ Rd w' R (p + 1) ∧ w.grownBy w' (some R) := by
    rintro e w' ⟨r, nq, he, h0, h1, rfl⟩
    exact ⟨r, he, h0, h1, (hN nq).1, (hN nq).2⟩
  by_cases h0 : len = 0
  · subst h0
    exact (pick_empty R p cap ao n w hn hn2 hp hR).mono fin
  · rcases hB with hB | ⟨b, off, rfl, hb, hc⟩
    · exact absurd hB h0
    · by_cases hlt : p < len
      · exact (pick_near R p len cap b off n z w hn hn2 hp hR hl hz (by omega) hc (by omega) hlt).mono fin
      · exact (pick_far R p len cap b off n z w hn hn2 hp hR hl hz (by omega) hc (by omega) (by omega)).mono fin

theorem Rd.lt {w : World} {R p : Nat} (h : Rd w R p) : R < w.heap.size := by
  obtain ⟨ao, len, cap, z, hR, _⟩ := h
  exact (Array.getElem?_eq_some_iff.1 hR).1

/-- What is done behind the reader leaves it. -/
theorem Rd.keep {w w' : World} {R p : Nat} (h : Rd w R p) (hb : ∀ k, k ≤ R → w'.heap[k]? = w.heap[k]?) : Rd w' R p := by
  obtain ⟨ao, len, cap, z, hR, hl, hz, hB⟩ := h
  refine ⟨ao, len, cap, z, (hb R (Nat.le_refl _)).trans hR, hl, hz, ?_⟩
  rcases hB with h0 | ⟨b, off, e, hbR, hc⟩
  · exact .inl h0
  · exact .inr ⟨b, off, e, hbR, fun i hi => (World.cell?_of_block (a := ⟨b, _, none⟩) (hb b (by omega))).trans (hc i hi)⟩
theorem Rd.alloc {w : World} {R p : Nat} (h : Rd w R p) (o : Obj) : Rd (w.alloc o) R p :=
  h.keep (fun k hk => Below.heap_alloc w o k (by have := h.lt; omega))
theorem Rd.below {w w' : World} {R p : Nat} (h : Rd w R p) (hb : Below w.heap.size w w') : Rd w' R p :=
  h.keep (fun k hk => hb.block k (by have := h.lt; omega))
theorem Rd.grown {w w' : World} {R p : Nat} {row : Option Nat} (h : Rd w R p) (hg : w.grownBy w' row) (hr : ∀ k, row = some k → R < k) : Rd w' R p :=
  h.keep (fun k hk => hg.block k (by have := h.lt; omega) (fun e => by have := hr k e.symm; omega))

theorem grown_alloc (w : World) (o : Obj) (row : Option Nat) : w.grownBy (w.alloc o) row := World.grownBy_alloc w o row

/-- Numbers written out in a new block. -/
theorem lit_ints (W : World) (xs : List Int) (t : TypeId) (i : Nat) (h : i < xs.length) : (W.alloc (.cells (xs.map (Value.int .i64)).toArray t)).cell? ⟨W.heap.size, i, none⟩ = some (.int .i64 xs[i]) := by
  rw [World.cell?_alloc_at _ _ _ _ rfl]
  simp [h]
theorem lit_strs (W : World) (xs : List ByteArray) (t : TypeId) (i : Nat) (h : i < xs.length) : (W.alloc (.cells (xs.map Value.string).toArray t)).cell? ⟨W.heap.size, i, none⟩ = some (.string xs[i]) := by
  rw [World.cell?_alloc_at _ _ _ _ rfl]
  simp [h]

/-- A place that was drawn: within bounds. -/
def Dc (c : C) : Prop := 0 ≤ c.k ∧ c.k ≤ 4 ∧ -1000000 ≤ c.n ∧ c.n ≤ 1000000 ∧ c.s.size ≤ 11
/-- A place of a term that was drawn: within narrower bounds. -/
def Ds (c : C) : Prop := 0 ≤ c.k ∧ c.k ≤ 4 ∧ -10000 ≤ c.n ∧ c.n ≤ 10000 ∧ c.s.size ≤ 11
theorem Ds.dc {c : C} (h : Ds c) : Dc c := by obtain ⟨h1, h2, h3, h4, h5⟩ := h; exact ⟨h1, h2, by omega, by omega, h5⟩
end Go.Proofs.YthelpghiafbejaaDoor
