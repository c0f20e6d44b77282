import Derived.Test.YtkedckmpjedjoaaQPlainMemOpen
import Derived.Test.YtkedckmpjedjoaaQW10W13
import Derived.Laws.Bits64
import Derived.Test.YtkedckmpjedjoaaQW15W16W2
import Derived.Deep.RegionWith
import Derived.Deep.DeepMust
import Derived.Test.YtkedckmpjedjoaaQT1Plain4T2
import Derived.Test.YtkedckmpjedjoaaQW1Mem2Mem3W9
import Derived.OwnWalk
import Derived.Test.YtkedckmpjedjoaaChecked
import Derived.Deep.AppendLies
import Derived.Deep.RegionHeld3
import Derived.Test.YtkedckmpjedjoaaQW3W4W6
import Derived.Test.YtkedckmpjedjoaaQGI7PB1SB1
import Derived.Test.YtkedckmpjedjoaaQW7Plain2G1
import Derived.Lib.AppendStr
import Derived.BigQuiet
/- Arguments of the laws, opened: bytes that came in. -/
namespace Go.Proofs.Ytkedckmpjedjoaa
open Go.RowKit Go.Deep Go.ChangeShapes Go.WideShapes
set_option linter.unusedVariables false
set_option linter.unusedSimpArgs false

/-- Bytes that came in. -/
def Bin (w : World) (a : Option Addr) (len cap : Nat) (z : Nat → Int) : Prop :=
  len ≤ cap ∧ cap ≤ maxLen ∧ (∀ i, 0 ≤ z i ∧ z i ≤ 255) ∧ (len = 0 ∨ ∃ b off, a = some ⟨b, off, none⟩ ∧ ∀ i, i < len → w.cell? ⟨b, off + i, none⟩ = some (.int .u8 (z i)))

theorem Try.cellsByte : Try.prog.cellsOf 5 = 1 := by kernel_rfl

/-- A slice of bytes that came in leads to bytes. -/
theorem open_bytes {H : Type} {enc : TypeId × Value → H} {W : World} {a : Option Addr} {len cap : Nat} {d : DataW H} {p : List MemPlace}
    (h : DataW.Trod enc Try.prog W 0 (fun _ => true) true 51 (.slice a len cap) d p) : ∃ z, Bin W a len cap z := by
  obtain ⟨fuel, hf⟩ := h
  rcases open_ints Try.underlying51 Try.underlying5 Try.cellsByte hf with ⟨hcs, _⟩ | ⟨x, l, c, zs, hcs, _, hl, hm, hz, _, hcell, hwz⟩
  · simp [Value.cells] at hcs
    obtain ⟨rfl, rfl, rfl⟩ := hcs
    exact ⟨fun _ => 0, Nat.le_refl _, by simp [maxLen], fun _ => ⟨by simp, by simp⟩, .inl rfl⟩
  · simp [Value.cells] at hcs
    obtain ⟨rfl, rfl, rfl⟩ := hcs
    have hzl : zs.length = cap := by simpa using hz
    have hb : ∀ i, 0 ≤ zs.getD i 0 ∧ zs.getD i 0 ≤ 255 := fun i => by
      by_cases hi : i < zs.length
      · have hm' : zs.getD i 0 ∈ zs := by rw [show zs.getD i 0 = zs[i] by simp [List.getD, hi]]; exact List.getElem_mem hi
        have hw' := hwz _ hm'
        generalize zs.getD i 0 = y at hw' ⊢
        simpa [Lit.wf, IntKind.min, IntKind.max, IntKind.signed, IntKind.bits] using hw'
      · rw [show zs.getD i 0 = 0 by simp [List.getD, hi]]; omega
    refine ⟨fun i => zs.getD i 0, hl, hm, hb, ?_⟩
    by_cases h0 : len = 0
    · exact .inl h0
    · right
      obtain ⟨b, off, spot⟩ := x
      have hsp : spot = none := by
        have := hcell 0 (by omega)
        simpa [Addr.add] using World.cell?_spot this
      subst hsp
      refine ⟨b, off, rfl, fun i hi => ?_⟩
      have := hcell i (by omega)
      rwa [add_zero_spot] at this
end Go.Proofs.Ytkedckmpjedjoaa

/- The reader by which the laws draw: l20Open, pick, odd. What it draws is not told, only its bounds. -/
namespace Go.Proofs.Ytkedckmpjedjoaa
open Go.RowKit
set_option linter.unusedVariables false
set_option linter.unusedSimpArgs false

/-- Bytes lie behind a slice. -/
def Byt (w : World) (R : Nat) (ao : Option Addr) (len : Nat) (z : Nat → Int) : Prop :=
  (∀ i, 0 ≤ z i ∧ z i ≤ 255) ∧ (len = 0 ∨ ∃ b off, ao = some ⟨b, off, none⟩ ∧ b < R ∧ ∀ i, i < len → w.cell? ⟨b, off + i, none⟩ = some (.int .u8 (z i)))

/-- A reader lies in block R: p bytes have been read. -/
def Rd (w : World) (R p : Nat) : Prop :=
  ∃ ao len cap z, w.heap[R]? = some (.cells #[.slice ao len cap, .int .i64 p] 179 (0, 0)) ∧ len ≤ 2000 ∧ Byt w R ao len z

theorem xor_i64_nat (a b : Nat) (ha : a < 9223372036854775808) (hb : b < 9223372036854775808) : bits .xor .i64 (a : Int) (b : Int) = ((a ^^^ b : Nat) : Int) := by
  have hx : a ^^^ b < 2 ^ 63 := Nat.xor_lt_two_pow (by omega) (by omega)
  have h1 : (BitVec.ofInt 64 (a : Int)).toNat = a := by
    rw [BitVec.ofInt_natCast, BitVec.toNat_ofNat]; exact Nat.mod_eq_of_lt (by omega)
  have h2 : (BitVec.ofInt 64 (b : Int)).toNat = b := by
    rw [BitVec.ofInt_natCast, BitVec.toNat_ofNat]; exact Nat.mod_eq_of_lt (by omega)
  show IntKind.i64.wrap ((BitVec.ofInt 64 (a : Int) ^^^ BitVec.ofInt 64 (b : Int)).toNat : Int) = _
  rw [BitVec.toNat_xor, h1, h2]
  simp [IntKind.wrap, IntKind.bits, IntKind.signed]
  omega

theorem xor_nonneg {x : Int} (h0 : 0 ≤ x) (h1 : x < 9223372036854775808) : 0 ≤ bits .xor .i64 x (x / 64) := by
  obtain ⟨a, rfl⟩ := Int.eq_ofNat_of_zero_le h0
  rw [show ((a : Int) / 64) = ((a / 64 : Nat) : Int) by omega, xor_i64_nat a (a / 64) (by omega) (by omega)]
  omega

theorem draw_in {x n : Int} (h0 : 0 ≤ x) (h1 : x < 9223372036854775808) (hn : 1 ≤ n) : 0 ≤ (bits .xor .i64 x (x / 64)).tmod n ∧ (bits .xor .i64 x (x / 64)).tmod n < n :=
  ⟨Int.tmod_nonneg _ (xor_nonneg h0 h1), Int.tmod_lt_of_pos _ (by omega)⟩

set_option maxHeartbeats 2000000 in
theorem pick_far (R p len cap b off : Nat) (n : Int) (z : Nat → Int) (w : World) (hn : 1 ≤ n) (hn2 : n ≤ 1000000) (hp : p ≤ 1000000000) (hR : w.heap[R]? = some (.cells #[.slice (some ⟨b, off, none⟩) len cap, .int .i64 p] 179 (0, 0)))
    (hl : len ≤ 2000) (hz : ∀ i, 0 ≤ z i ∧ z i ≤ 255) (hb : b ≠ R) (hc : ∀ i, i < len → w.cell? ⟨b, off + i, none⟩ = some (.int .u8 (z i))) (h0 : 0 < len) (hlt : len ≤ p) :
    Calls Try.prog 125 #[.pointer (some ⟨R, 0, none⟩), .int .i64 n] w fun e w' => ∃ r nq, e = .returned (.int .i64 r) ∧ 0 ≤ r ∧ r < n ∧ w' = (w.setCell ⟨R, 1, none⟩ (.int .i64 ((p : Int) + 1))).drewN nq := by
  have e0 : w.cell? ⟨R, 0, none⟩ = some (.slice (some ⟨b, off, none⟩) len cap) := by simp [World.cell?, hR]
  have e1 : w.cell? ⟨R, 1, none⟩ = some (.int .i64 p) := by simp [World.cell?, hR]
  have f1 : w.frozen? ⟨R, 1, none⟩ = false := by simp [World.frozen?, hR]
  have hq : ∀ i, i < len → (w.setCell ⟨R, 1, none⟩ (.int .i64 ((p : Int) + 1))).cell? ⟨b, off + i, none⟩ = some (.int .u8 (z i)) := fun i hi => by
    exact (World.cell?_of_block (a := ⟨b, _, none⟩) (Below.heap_setCell w ⟨R, 1, none⟩ _ b hb)).trans (hc i hi)
  have q1 := hq (p % len) (Nat.mod_lt _ h0)
  have q2 := hq ((p * 7 + 3) % len) (Nat.mod_lt _ h0)
  have z1 := hz (p % len)
  have z2 := hz ((p * 7 + 3) % len)
  clear hq hc hR hz
  have i0 : (0 : Int) ≤ (p : Int) % (len : Int) := Int.emod_nonneg _ (by omega)
  have i1 : (p : Int) % (len : Int) < (len : Int) := Int.emod_lt_of_pos _ (by omega)
  have i2 : ((p : Int) % (len : Int)).toNat = p % len := by rw [← Int.natCast_emod, Int.toNat_natCast]
  have j0 : (0 : Int) ≤ ((p : Int) * 7 + 3) % (len : Int) := Int.emod_nonneg _ (by omega)
  have j1 : ((p : Int) * 7 + 3) % (len : Int) < (len : Int) := Int.emod_lt_of_pos _ (by omega)
  have j2 : (((p : Int) * 7 + 3) % (len : Int)).toNat = (p * 7 + 3) % len := by rw [show (p : Int) * 7 + 3 = ((p * 7 + 3 : Nat) : Int) by omega, ← Int.natCast_emod, Int.toNat_natCast]
  have k0 : (0 : Int) ≤ (p : Int) / (len : Int) := Int.ediv_nonneg (by omega) (by omega)
  have k1 : (p : Int) / (len : Int) ≤ (p : Int) := Int.ediv_le_self _ (by omega)
  have hzl : ((len : Int) == 0) = false := by rw [beq_eq_false_iff_ne]; omega
  go_enter Try.func125, Try.ntmps125
  go_wp2
  refine wp_region_quiet_lit (by kernel_rfl) (by kernel_rfl) ?_
  repeat (first | go_big_quiet_step (fail) | quiet_step (fail))
  refine wpQuiet_nil ?_
  intro _ hw'
  obtain ⟨nq, hw''⟩ := hw'
  subst hw''
  go_wp2
  go_ret
  have hr := draw_in (x := z (p % len) * 131 + z ((p * 7 + 3) % len) * 1117 + (p : Int) * 29 + (p : Int) / (len : Int) * 53) (n := n) (by omega) (by omega) hn
  exact ⟨_, nq, rfl, hr.1, hr.2, rfl⟩

set_option maxHeartbeats 1000000 in
theorem pick_near (R p len cap b off : Nat) (n : Int) (z : Nat → Int) (w : World) (hn : 1 ≤ n) (hn2 : n ≤ 1000000) (hp : p ≤ 1000000000) (hR : w.heap[R]? = some (.cells #[.slice (some ⟨b, off, none⟩) len cap, .int .i64 p] 179 (0, 0)))
    (hl : len ≤ 2000) (hz : ∀ i, 0 ≤ z i ∧ z i ≤ 255) (hb : b ≠ R) (hc : ∀ i, i < len → w.cell? ⟨b, off + i, none⟩ = some (.int .u8 (z i))) (h0 : 0 < len) (hlt : p < len) :
    Calls Try.prog 125 #[.pointer (some ⟨R, 0, none⟩), .int .i64 n] w fun e w' => ∃ r nq, e = .returned (.int .i64 r) ∧ 0 ≤ r ∧ r < n ∧ w' = (w.setCell ⟨R, 1, none⟩ (.int .i64 ((p : Int) + 1))).drewN nq := by
  have e0 : w.cell? ⟨R, 0, none⟩ = some (.slice (some ⟨b, off, none⟩) len cap) := by simp [World.cell?, hR]
  have e1 : w.cell? ⟨R, 1, none⟩ = some (.int .i64 p) := by simp [World.cell?, hR]
  have f1 : w.frozen? ⟨R, 1, none⟩ = false := by simp [World.frozen?, hR]
  have q1 : (w.setCell ⟨R, 1, none⟩ (.int .i64 ((p : Int) + 1))).cell? ⟨b, off + p, none⟩ = some (.int .u8 (z p)) :=
    (World.cell?_of_block (a := ⟨b, _, none⟩) (Below.heap_setCell w ⟨R, 1, none⟩ _ b hb)).trans (hc p hlt)
  have z1 := hz p
  clear hc hR hz
  have hzl : ((len : Int) == 0) = false := by rw [beq_eq_false_iff_ne]; omega
  go_enter Try.func125, Try.ntmps125
  go_wp2
  go_ret
  refine ⟨_, 0, rfl, ?_, ?_, rfl⟩
  · first | exact Int.emod_nonneg _ (by omega) | exact Int.tmod_nonneg _ (by omega)
  · first | exact Int.emod_lt_of_pos _ (by omega) | exact Int.tmod_lt_of_pos _ (by omega)

set_option maxHeartbeats 1000000 in
theorem pick_empty (R p cap : Nat) (ao : Option Addr) (n : Int) (w : World) (hn : 1 ≤ n) (hn2 : n ≤ 1000000) (hp : p ≤ 1000000000) (hR : w.heap[R]? = some (.cells #[.slice ao 0 cap, .int .i64 p] 179 (0, 0))) :
    Calls Try.prog 125 #[.pointer (some ⟨R, 0, none⟩), .int .i64 n] w fun e w' => ∃ r nq, e = .returned (.int .i64 r) ∧ 0 ≤ r ∧ r < n ∧ w' = (w.setCell ⟨R, 1, none⟩ (.int .i64 ((p : Int) + 1))).drewN nq := by
  have e0 : w.cell? ⟨R, 0, none⟩ = some (.slice ao 0 cap) := by simp [World.cell?, hR]
  have e1 : w.cell? ⟨R, 1, none⟩ = some (.int .i64 p) := by simp [World.cell?, hR]
  have f1 : w.frozen? ⟨R, 1, none⟩ = false := by simp [World.frozen?, hR]
  clear hR
  go_enter Try.func125, Try.ntmps125
  go_wp2
  go_ret
  exact ⟨_, 0, rfl, by omega, by omega, rfl⟩

theorem rd_next {w : World} {R p nq : Nat} (h : Rd w R p) : Rd ((w.setCell ⟨R, 1, none⟩ (.int .i64 ((p : Int) + 1))).drewN nq) R (p + 1) ∧ w.grownBy ((w.setCell ⟨R, 1, none⟩ (.int .i64 ((p : Int) + 1))).drewN nq) (some R) := by
  obtain ⟨ao, len, cap, z, hR, hl, hz, hB⟩ := h
  have hblk : ∀ k, k ≠ R → ((w.setCell ⟨R, 1, none⟩ (.int .i64 ((p : Int) + 1))).drewN nq).heap[k]? = w.heap[k]? := fun k hk => Below.heap_setCell w ⟨R, 1, none⟩ _ k hk
  constructor
  · refine ⟨ao, len, cap, z, ?_, hl, hz, ?_⟩
    · have := heap_setCell_same w R 1 _ _ (.int .i64 ((p : Int) + 1)) hR
      show (w.setCell ⟨R, 1, none⟩ (.int .i64 ((p : Int) + 1))).heap[R]? = _
      rw [this]
      simp
    · rcases hB with h0 | ⟨b, off, e, hb, hc⟩
      · exact .inl h0
      · exact .inr ⟨b, off, e, hb, fun i hi => (World.cell?_of_block (a := ⟨b, _, none⟩) (hblk b (by omega))).trans (hc i hi)⟩
  · exact ⟨rfl, rfl, rfl, by simp [World.setCell, World.drewN], fun k hk hn => hblk k (fun e => hn (by rw [e]))⟩

/-- What pick draws: a number within its bound; the reader has gone on by one. -/
theorem pick_any (R p : Nat) (n : Int) (w : World) (hn : 1 ≤ n) (hn2 : n ≤ 1000000) (hp : p ≤ 1000000000) (h : Rd w R p) :
    Calls Try.prog 125 #[.pointer (some ⟨R, 0, none⟩), .int .i64 n] w fun e w' => ∃ r, e = .returned (.int .i64 r) ∧ 0 ≤ r ∧ r < n ∧ Rd w' R (p + 1) ∧ w.grownBy w' (some R) := by
  have hN := fun nq => rd_next (nq := nq) h
  obtain ⟨ao, len, cap, z, hR, hl, hz, hB⟩ := h
  have fin : ∀ (e : Ending) (w' : World), (∃ r nq, e = .returned (.int .i64 r) ∧ 0 ≤ r ∧ r < n ∧ w' = (w.setCell ⟨R, 1, none⟩ (.int .i64 ((p : Int) + 1))).drewN nq) → ∃ r, e = .returned (.int .i64 r) ∧ 0 ≤ r ∧ r < n ∧ Rd w' R (p + 1) ∧ w.grownBy w' (some R) := by
    rintro e w' ⟨r, nq, he, h0, h1, rfl⟩
    exact ⟨r, he, h0, h1, (hN nq).1, (hN nq).2⟩
  by_cases h0 : len = 0
  · subst h0
    exact (pick_empty R p cap ao n w hn hn2 hp hR).mono fin
  · rcases hB with hB | ⟨b, off, rfl, hb, hc⟩
    · exact absurd hB h0
    · by_cases hlt : p < len
      · exact (pick_near R p len cap b off n z w hn hn2 hp hR hl hz (by omega) hc (by omega) hlt).mono fin
      · exact (pick_far R p len cap b off n z w hn hn2 hp hR hl hz (by omega) hc (by omega) (by omega)).mono fin

theorem Rd.lt {w : World} {R p : Nat} (h : Rd w R p) : R < w.heap.size := by
  obtain ⟨ao, len, cap, z, hR, _⟩ := h
  exact (Array.getElem?_eq_some_iff.1 hR).1

/-- What is done behind the reader leaves it. -/
theorem Rd.keep {w w' : World} {R p : Nat} (h : Rd w R p) (hb : ∀ k, k ≤ R → w'.heap[k]? = w.heap[k]?) : Rd w' R p := by
  obtain ⟨ao, len, cap, z, hR, hl, hz, hB⟩ := h
  refine ⟨ao, len, cap, z, (hb R (Nat.le_refl _)).trans hR, hl, hz, ?_⟩
  rcases hB with h0 | ⟨b, off, e, hbR, hc⟩
  · exact .inl h0
  · exact .inr ⟨b, off, e, hbR, fun i hi => (World.cell?_of_block (a := ⟨b, _, none⟩) (hb b (by omega))).trans (hc i hi)⟩
theorem Rd.alloc {w : World} {R p : Nat} (h : Rd w R p) (o : Obj) : Rd (w.alloc o) R p :=
  h.keep (fun k hk => Below.heap_alloc w o k (by have := h.lt; omega))
theorem Rd.below {w w' : World} {R p : Nat} (h : Rd w R p) (hb : Below w.heap.size w w') : Rd w' R p :=
  h.keep (fun k hk => hb.block k (by have := h.lt; omega))
theorem Rd.grown {w w' : World} {R p : Nat} {row : Option Nat} (h : Rd w R p) (hg : w.grownBy w' row) (hr : ∀ k, row = some k → R < k) : Rd w' R p :=
  h.keep (fun k hk => hg.block k (by have := h.lt; omega) (fun e => by have := hr k e.symm; omega))

theorem grown_alloc (w : World) (o : Obj) (row : Option Nat) : w.grownBy (w.alloc o) row := World.grownBy_alloc w o row

/-- Numbers written out in a new block. -/
theorem lit_ints (W : World) (xs : List Int) (t : TypeId) (i : Nat) (h : i < xs.length) : (W.alloc (.cells (xs.map (Value.int .i64)).toArray t)).cell? ⟨W.heap.size, i, none⟩ = some (.int .i64 xs[i]) := by
  rw [World.cell?_alloc_at _ _ _ _ rfl]
  simp [h]
theorem lit_strs (W : World) (xs : List ByteArray) (t : TypeId) (i : Nat) (h : i < xs.length) : (W.alloc (.cells (xs.map Value.string).toArray t)).cell? ⟨W.heap.size, i, none⟩ = some (.string xs[i]) := by
  rw [World.cell?_alloc_at _ _ _ _ rfl]
  simp [h]

set_option maxHeartbeats 400000 in
theorem odd_any (R p : Nat) (n : Int) (w : World) (hn : 1 ≤ n) (hn2 : n ≤ 1000000) (hp : p ≤ 1000000000) (h : Rd w R p) :
    Calls Try.prog 124 #[.pointer (some ⟨R, 0, none⟩), .int .i64 n] w fun e w' => ∃ r, e = .returned (.bool r) ∧ Rd w' R (p + 1) ∧ w.grownBy w' (some R) := by
  go_enter Try.func124, Try.ntmps124
  go_wp2_with fail
  refine (pick_any R p n _ hn hn2 hp h).mono ?_
  rintro e w1 ⟨r, rfl, h0, h1, hR1, hG1⟩
  go_wp2
  go_ret
  exact ⟨_, rfl, hR1, hG1⟩

/-- A place that was drawn: within bounds. -/
def Dc (c : C) : Prop := 0 ≤ c.k ∧ c.k ≤ 4 ∧ -1000000 ≤ c.n ∧ c.n ≤ 1000000 ∧ c.s.size ≤ 11
/-- A place of a term that was drawn: within narrower bounds. -/
def Ds (c : C) : Prop := 0 ≤ c.k ∧ c.k ≤ 4 ∧ -10000 ≤ c.n ∧ c.n ≤ 10000 ∧ c.s.size ≤ 11
theorem Ds.dc {c : C} (h : Ds c) : Dc c := by obtain ⟨h1, h2, h3, h4, h5⟩ := h; exact ⟨h1, h2, by omega, by omega, h5⟩
end Go.Proofs.Ytkedckmpjedjoaa

/- What is drawn: a place (l20Leaf). -/
namespace Go.Proofs.Ytkedckmpjedjoaa
open Go.RowKit
set_option linter.unusedVariables false
set_option linter.unusedSimpArgs false

theorem pick_lit {W w2 : World} {R : Nat} {xs : List Int} {t : TypeId} {j : Nat} (hR : R < W.heap.size) (hg : (W.alloc (.cells (xs.map (Value.int .i64)).toArray t)).grownBy w2 (some R)) (h : j < xs.length) : w2.cell? ⟨W.heap.size, j, none⟩ = some (.int .i64 xs[j]) :=
  hg.cell (lit_ints W xs t j h) (by simp; omega)
theorem pick_lits {W w2 : World} {R : Nat} {xs : List ByteArray} {t : TypeId} {j : Nat} (hR : R < W.heap.size) (hg : (W.alloc (.cells (xs.map Value.string).toArray t)).grownBy w2 (some R)) (h : j < xs.length) : w2.cell? ⟨W.heap.size, j, none⟩ = some (.string xs[j]) :=
  hg.cell (lit_strs W xs t j h) (by simp; omega)

theorem ds_mk {k n : Int} {s : ByteArray} (h0 : 0 ≤ k) (h1 : k ≤ 4) (h2 : -10000 ≤ n) (h3 : n ≤ 10000) (h4 : s.size ≤ 11) : Ds ⟨k, n, s⟩ := ⟨h0, h1, h2, h3, h4⟩
theorem dc_mk {k n : Int} {s : ByteArray} (h0 : 0 ≤ k) (h1 : k ≤ 4) (h2 : -1000000 ≤ n) (h3 : n ≤ 1000000) (h4 : s.size ≤ 11) : Dc ⟨k, n, s⟩ := ⟨h0, h1, h2, h3, h4⟩

theorem grown_set {w w' : World} {row : Option Nat} (h : w.grownBy w' row) {p : Addr} (hp : w.heap.size ≤ p.block) (v : Value) : w.grownBy (w'.setCell p v) row :=
  ⟨h.os, h.tape, h.output, by simpa [World.setCell] using h.size, fun k hk hn => (Below.heap_setCell w' p v k (by omega)).trans (h.block k hk hn)⟩
theorem grown_first {w w' : World} {o : Obj} {row : Option Nat} (h : (w.alloc o).grownBy w' row) : w.grownBy w' row := grown_trans (grown_alloc w o row) h
theorem Rd.set {w : World} {R p : Nat} (h : Rd w R p) {a : Addr} (ha : R < a.block) (v : Value) : Rd (w.setCell a v) R p :=
  h.keep (fun k hk => Below.heap_setCell w a v k (by omega))

/-- The three cells of a struct result, behind what was done since. -/
theorem res_cells {W w1 : World} {R : Nat} (hR : R < W.heap.size) (hG : (W.alloc (.cells #[.int .i64 0, .int .i64 0, .string ByteArray.empty] 98)).grownBy w1 (some R)) :
    w1.heap[W.heap.size]? = some (.cells #[.int .i64 0, .int .i64 0, .string ByteArray.empty] 98 (0, 0)) := by
  rw [hG.block W.heap.size (by simp) (by simp; omega)]
  exact heap_alloc_new W _

theorem agg_cells {w : World} {B : Nat} {a b c : Value} (h : w.heap[B]? = some (.cells #[a, b, c] 98 (0, 0))) :
    w.cell? ⟨B, 0, none⟩ = some a ∧ w.cell? ⟨B, 1, none⟩ = some b ∧ w.cell? ⟨B, 2, none⟩ = some c ∧ w.frozen? ⟨B, 0, none⟩ = false ∧ w.frozen? ⟨B, 1, none⟩ = false ∧ w.frozen? ⟨B, 2, none⟩ = false := by
  simp [World.cell?, World.frozen?, h]

set_option maxHeartbeats 2000000 in
theorem leaf_any (R p : Nat) (n : Int) (w : World) (hn : 1 ≤ n) (hn2 : n ≤ 1000) (hp : p ≤ 999999000) (h : Rd w R p) :
    Calls Try.prog 186 #[.pointer (some ⟨R, 0, none⟩), .int .i64 n] w fun e w' => ∃ c : C, e = .returned (.agg #[.int .i64 c.k, .int .i64 c.n, .string c.s]) ∧ Ds c ∧ (c.k = 3 → c.n = 0) ∧ Rd w' R (p + 2) ∧ w.grownBy w' (some R) := by
  have hlt := h.lt
  go_enter Try.func186, Try.ntmps186
  go_wp2_with fail
  refine (pick_any R p 4 _ (by omega) (by omega) (by omega) (h.alloc _)).mono ?_
  rintro e w1 ⟨r, rfl, h0, h1, hR1, hG1⟩
  have hB1 := res_cells hlt hG1
  have hg1 := grown_first hG1
  have hs1 : w.heap.size < w1.heap.size := by have := hG1.size; simp at this; omega
  clear hG1
  have HB1 := hide hB1
  clear hB1
  obtain hr | rfl | rfl : (r = 0 ∨ r = 1) ∨ r = 2 ∨ r = 3 := by omega
  · rcases hr with rfl | rfl
    all_goals
      go_wp2_with fail
      refine (pick_any R (p + 1) n _ hn (by omega) (by omega) hR1).mono ?_
      rintro e w2 ⟨r2, rfl, h20, h21, hR2, hG2⟩
      obtain ⟨q0, q1, q2, f0, f1, f2⟩ := agg_cells ((hG2.block w.heap.size hs1 (by simp; omega)).trans (unhide HB1))
      go_wp2
      exact bodyPost_ret (v := .agg #[.int .i64 1, .int .i64 r2, .string (ByteArray.mk #[])]) (by simp [results, Try.results186, go_sem, q0, q1, q2]) rfl ⟨⟨1, r2, ByteArray.mk #[]⟩, rfl, ds_mk (by omega) (by omega) (by omega) (by omega) (by decide), by simp, ((hR2.set (by exact hlt) _).set (by exact hlt) _).set (by exact hlt) _, grown_set (grown_set (grown_set (grown_trans hg1 hG2) (Nat.le_refl _) _) (Nat.le_refl _) _) (Nat.le_refl _) _⟩
  · go_wp2_with fail
    refine (pick_any R (p + 1) 6 _ (by omega) (by omega) (by omega) (hR1.alloc _)).mono ?_
    rintro e w2 ⟨r2, rfl, h20, h21, hR2, hG2⟩
    obtain ⟨j, rfl⟩ := Int.eq_ofNat_of_zero_le h20
    have hq := pick_lit (xs := [0, 1, 2, -1, 7, 9999]) hR1.lt hG2 (j := j) (by simp; omega)
    have hx : ∀ x ∈ ([0, 1, 2, -1, 7, 9999] : List Int), -10000 ≤ x ∧ x ≤ 10000 := by decide
    have hx' := hx _ (List.getElem_mem (l := [0, 1, 2, -1, 7, 9999]) (n := j) (by simp; omega))
    obtain ⟨x, hxe⟩ : ∃ x : Int, x = ([0, 1, 2, -1, 7, 9999] : List Int)[j]'(by simp; omega) := ⟨_, rfl⟩
    rw [← hxe] at hq hx'
    clear hxe hx
    obtain ⟨q0, q1, q2, f0, f1, f2⟩ := agg_cells ((hG2.block w.heap.size (by simp; omega) (by simp; omega)).trans ((Below.heap_alloc w1 _ _ hs1).trans (unhide HB1)))
    go_wp2
    exact bodyPost_ret (v := .agg #[.int .i64 2, .int .i64 x, .string (ByteArray.mk #[])]) (by simp [results, Try.results186, go_sem, q0, q1, q2]) rfl ⟨⟨2, x, ByteArray.mk #[]⟩, rfl, ds_mk (by omega) (by omega) (by omega) (by omega) (by decide), by simp, ((hR2.set (by exact hlt) _).set (by exact hlt) _).set (by exact hlt) _, grown_set (grown_set (grown_set (grown_trans hg1 (grown_first hG2)) (Nat.le_refl _) _) (Nat.le_refl _) _) (Nat.le_refl _) _⟩
  · go_wp2_with fail
    refine (pick_any R (p + 1) 4 _ (by omega) (by omega) (by omega) (hR1.alloc _)).mono ?_
    rintro e w2 ⟨r2, rfl, h20, h21, hR2, hG2⟩
    obtain ⟨j, rfl⟩ := Int.eq_ofNat_of_zero_le h20
    have hq := pick_lits (xs := [ByteArray.mk #[97], ByteArray.mk #[98], ByteArray.mk #[99], ByteArray.mk #[110, 105, 108]]) hR1.lt hG2 (j := j) (by simp; omega)
    have hx : ∀ x ∈ ([ByteArray.mk #[97], ByteArray.mk #[98], ByteArray.mk #[99], ByteArray.mk #[110, 105, 108]] : List ByteArray), x.size ≤ 11 := by decide
    have hx' := hx _ (List.getElem_mem (l := [ByteArray.mk #[97], ByteArray.mk #[98], ByteArray.mk #[99], ByteArray.mk #[110, 105, 108]]) (n := j) (by simp; omega))
    obtain ⟨x, hxe⟩ : ∃ x : ByteArray, x = ([ByteArray.mk #[97], ByteArray.mk #[98], ByteArray.mk #[99], ByteArray.mk #[110, 105, 108]] : List ByteArray)[j]'(by simp; omega) := ⟨_, rfl⟩
    rw [← hxe] at hq hx'
    clear hxe hx
    obtain ⟨q0, q1, q2, f0, f1, f2⟩ := agg_cells ((hG2.block w.heap.size (by simp; omega) (by simp; omega)).trans ((Below.heap_alloc w1 _ _ hs1).trans (unhide HB1)))
    go_wp2
    exact bodyPost_ret (v := .agg #[.int .i64 3, .int .i64 0, .string x]) (by simp [results, Try.results186, go_sem, q0, q1, q2]) rfl ⟨⟨3, 0, x⟩, rfl, ds_mk (by omega) (by omega) (by omega) (by omega) hx', by simp, ((hR2.set (by exact hlt) _).set (by exact hlt) _).set (by exact hlt) _, grown_set (grown_set (grown_set (grown_trans hg1 (grown_first hG2)) (Nat.le_refl _) _) (Nat.le_refl _) _) (Nat.le_refl _) _⟩
end Go.Proofs.Ytkedckmpjedjoaa

/- What is drawn: places of a term (l20Term). -/
namespace Go.Proofs.Ytkedckmpjedjoaa
open Go.RowKit
set_option linter.unusedVariables false
set_option linter.unusedSimpArgs false

/-- How long a slice value is: for a loop's measure. -/
def lenV : Value → Nat
  | .slice _ n _ => n
  | _ => 0

theorem own_setc {w : World} {base e size n : Nat} {v : Value} {xs : List Value} (h : w.ownsRow base e size v n xs) {p : Addr} (hp : ∀ k, v.ownBlock = some k → k ≠ p.block) (u : Value) : (w.setCell p u).ownsRow base e size v n xs := by
  refine h.kept (row := some p.block) ⟨rfl, rfl, rfl, by simp [World.setCell], fun k hk hn => Below.heap_setCell w p u k (fun e => hn (by rw [e]))⟩ ?_
  cases hv : v.ownBlock with
  | none => exact .inl rfl
  | some k => exact .inr (fun e => hp k hv (by simpa using e))

theorem grown_own {w W w5 : World} {R : Nat} {o : Obj} {v : Value} (h : w.grownBy W (some R)) (hg : (W.alloc o).grownBy w5 v.ownBlock) (hv : ∀ k, v.ownBlock = some k → w.heap.size ≤ k) : w.grownBy w5 (some R) := by
  have h1 := grown_trans h (grown_alloc W o (some R))
  exact ⟨hg.os.trans h1.os, hg.tape.trans h1.tape, hg.output.trans h1.output, Nat.le_trans h1.size hg.size, fun k hk hn => (hg.block k (Nat.lt_of_lt_of_le hk h1.size) (fun e => by have := hv k e.symm; omega)).trans (h1.block k hk hn)⟩

/-- What an append leaves of places that were drawn. -/
theorem draw_app {w W w5 : World} {R p : Nat} {v v' : Value} {t : List C} {c : C} (hb : R < w.heap.size) (hg : w.grownBy W (some R)) (hR : Rd W R p) (hown : OwnC W w.heap.size v t)
    (hown' : w5.ownsRow w.heap.size 98 3 v' (t.length + 1) (flat t ++ [.int .i64 c.k, .int .i64 c.n, .string c.s])) (hgrow : (W.alloc (.cells #[.int .i64 c.k, .int .i64 c.n, .string c.s] 98)).grownBy w5 v.ownBlock) :
    OwnC w5 w.heap.size v' (t ++ [c]) ∧ Rd w5 R p ∧ w.grownBy w5 (some R) := by
  refine ⟨?_, ?_, grown_own hg hgrow (fun k e => (hown.lt k e).1)⟩
  · unfold OwnC
    rw [show (t ++ [c]).length = t.length + 1 by simp, flat_append]
    exact hown'
  · exact (hR.alloc _).grown hgrow (fun k e => Nat.lt_of_lt_of_le hb (hown.lt k e).1)

theorem lenV_own {w : World} {base : Nat} {v : Value} {t : List C} (h : OwnC w base v t) : lenV v = t.length := by
  obtain ⟨ao, cap, rfl, _⟩ := h.shape
  rfl

theorem all_snoc {P : C → Prop} {t : List C} {c : C} (h : ∀ d ∈ t, P d) (hc : P c) : ∀ d ∈ t ++ [c], P d := fun d hd => by
  rcases List.mem_append.1 hd with h' | h'
  · exact h d h'
  · simp at h'; subst h'; exact hc

theorem size3 (w : World) (a b c : Addr) (x y z : Value) : (((w.setCell a x).setCell b y).setCell c z).heap.size = w.heap.size := by simp [World.setCell]

/-- Places were drawn: from lo to hi of them, all within bounds; the reader has gone on, by at most d. -/
def Drew (P : C → Prop) (w : World) (R p lo hi d : Nat) (e : Ending) (w' : World) : Prop :=
  ∃ v t p', e = .returned v ∧ OwnC w' w.heap.size v t ∧ lo ≤ t.length ∧ t.length ≤ hi ∧ (∀ c ∈ t, P c) ∧ Rd w' R p' ∧ p' ≤ p + d ∧ w.grownBy w' (some R)
theorem drew_mk {P : C → Prop} {w w' : World} {R p lo hi d p' : Nat} {v : Value} {t : List C} (h1 : OwnC w' w.heap.size v t) (h2 : lo ≤ t.length) (h3 : t.length ≤ hi) (h4 : ∀ c ∈ t, P c) (h5 : Rd w' R p') (h6 : p' ≤ p + d) (h7 : w.grownBy w' (some R)) : Drew P w R p lo hi d (.returned v) w' :=
  ⟨v, t, p', rfl, h1, h2, h3, h4, h5, h6, h7⟩

set_option maxHeartbeats 4000000 in
theorem term_any (R p : Nat) (most n : Int) (w : World) (hm1 : 1 ≤ most) (hm2 : most ≤ 40) (hn : 1 ≤ n) (hn2 : n ≤ 1000) (hp : p ≤ 999990000) (h : Rd w R p) :
    Calls Try.prog 176 #[.pointer (some ⟨R, 0, none⟩), .int .i64 most, .int .i64 n] w fun e w' => Drew Ds w R p 1 40 200 e w' := by
  obtain ⟨i0, hi, hz0, hz1, hz2⟩ := info_parts Try.infoCell
  have hlt := h.lt
  go_enter Try.func176, Try.ntmps176
  go_wp2
  go_loopw [7, 8] (fun v i wr => ∃ (t : List C) (o : Int) (p' : Nat), OwnC wr w.heap.size v t ∧ i = .int .i64 o ∧ 0 ≤ o ∧ t.length + o ≤ most ∧ (t.length = 0 → o = 1) ∧ (∀ c ∈ t, Ds c) ∧ Rd wr R p' ∧ p' ≤ p + 5 * t.length ∧ w.grownBy wr (some R)) (fun v _ _ => 40 - lenV v)
  case atStart => exact ⟨[], 1, p, World.ownsRow_made w #[] 0 (Nat.le_refl _) (by simp [maxLen]) rfl, rfl, by omega, by simp; omega, fun _ => rfl, fun c hc => by simp at hc, h.alloc _, by simp, grown_alloc _ _ _⟩
  case round =>
    obtain ⟨t, o, p', hown, rfl, ho, hto, ht0, hD, hR, hp', hG⟩ := hrel
    have HD := hide hD
    have HT0 := hide ht0
    have hln := hide (lenV_own hown)
    clear hD ht0
    obtain ⟨ao, cp, rfl, _⟩ := hown.shape
    by_cases hop : 0 < o
    · have hlr := hR.lt
      go_wp2_with fail
      refine (leaf_any R p' n _ hn hn2 (by omega) hR).mono ?_
      rintro e w1 ⟨c, rfl, hDc, hc3, hR1, hG1⟩
      have HDc := hide hDc
      have HC3 := hide hc3
      obtain ⟨hck0, hck4, hcn0, hcn1, hcs⟩ := hDc
      clear hc3
      have ho1 : OwnC w1 w.heap.size (.slice ao t.length cp) t := own_apart hown hG1 (fun k e => .inl (by cases e; exact hlt))
      have hg1 := grown_trans hG hG1
      have hs1 : wr.heap.size ≤ w1.heap.size := hG1.size
      have hws : w.heap.size ≤ wr.heap.size := hG.size
      have hvb : ∀ k, (Value.slice ao t.length cp).ownBlock = some k → k < w1.heap.size := fun k e => (ho1.lt k e).2
      have HVB := hide hvb
      clear hvb
      by_cases hcond : (t.length : Int) + o + 3 < most
      · go_wp2_with fail
        refine (pick_any R (p' + 2) 3 _ (by omega) (by omega) (by omega) (hR1.alloc _)).mono ?_
        rintro e w2 ⟨r, rfl, hr0, hr1, hR2, hG2⟩
        have hg2 := grown_trans hg1 (grown_first hG2)
        have ho2 : OwnC w2 w.heap.size (.slice ao t.length cp) t := own_apart (World.ownsRow.alloc ho1 _) hG2 (fun k e => .inl (by cases e; exact hlt))
        have hs2 : w1.heap.size < w2.heap.size := by have := hG2.size; simp at this; omega
        have hbx : w2.heap[w1.heap.size]? = some (.cells #[.int .i64 c.k, .int .i64 c.n, .string c.s] 98 (0, 0)) := (hG2.block w1.heap.size (by simp) (by simp; omega)).trans (heap_alloc_new w1 _)
        have HBX := hide hbx
        clear hbx hG2
        by_cases hr : r = 0
        · have hrb : (r == 0) = true := by simpa using hr
          clear hr
          go_wp2_with fail
          refine (pick_any R (p' + 2 + 1) 3 _ (by omega) (by omega) (by omega) hR2).mono ?_
          rintro e w3 ⟨r2, rfl, hr20, hr21, hR3, hG3⟩
          have hg3 := grown_trans hg2 hG3
          have ho3 : OwnC w3 w.heap.size (.slice ao t.length cp) t := own_apart ho2 hG3 (fun k e => .inl (by cases e; exact hlt))
          have hs3 : w1.heap.size < w3.heap.size := Nat.lt_of_lt_of_le hs2 hG3.size
          have HBX3 := hide ((hG3.block w1.heap.size hs2 (by simp; omega)).trans (unhide HBX))
          clear hG3
          go_wp2_with fail
          refine (pick_any R (p' + 2 + 1 + 1) 4 _ (by omega) (by omega) (by omega) (hR3.alloc _)).mono ?_
          rintro e w4 ⟨r3, rfl, hr30, hr31, hR4, hG4⟩
          obtain ⟨j, rfl⟩ := Int.eq_ofNat_of_zero_le hr30
          have hq := pick_lits (xs := [ByteArray.mk #[102], ByteArray.mk #[103], ByteArray.mk #[99], ByteArray.mk #[115]]) hR3.lt hG4 (j := j) (by simp; omega)
          have hx : ∀ x ∈ [ByteArray.mk #[102], ByteArray.mk #[103], ByteArray.mk #[99], ByteArray.mk #[115]], x.size ≤ 11 := by decide
          have hx' := hx _ (List.getElem_mem (l := [ByteArray.mk #[102], ByteArray.mk #[103], ByteArray.mk #[99], ByteArray.mk #[115]]) (n := j) (by simp; omega))
          obtain ⟨x, hxe⟩ : ∃ x : ByteArray, x = ([ByteArray.mk #[102], ByteArray.mk #[103], ByteArray.mk #[99], ByteArray.mk #[115]] : List ByteArray)[j]'(by simp; omega) := ⟨_, rfl⟩
          rw [← hxe] at hq hx'
          clear hxe hx
          have hg4 := grown_trans hg3 (grown_first hG4)
          have ho4 : OwnC w4 w.heap.size (.slice ao t.length cp) t := own_apart (World.ownsRow.alloc ho3 _) hG4 (fun k e => .inl (by cases e; exact hlt))
          have hs4 : w1.heap.size < w4.heap.size := by have := hG4.size; simp at this; omega
          obtain ⟨q0, q1, q2, f0, f1, f2⟩ := agg_cells ((hG4.block w1.heap.size (by simp; omega) (by simp; omega)).trans ((Below.heap_alloc w3 _ _ hs3).trans (unhide HBX3)))
          clear hG4
          have hdc5 : Ds ⟨3, 1 + r2, x⟩ := ds_mk (by omega) (by omega) (by omega) (by omega) hx'
          have ho5 : OwnC (((w4.setCell ⟨w1.heap.size, 0, none⟩ (.int .i64 3)).setCell ⟨w1.heap.size, 1, none⟩ (.int .i64 (1 + r2))).setCell ⟨w1.heap.size, 2, none⟩ (.string x)) w.heap.size (.slice ao t.length cp) t :=
            own_setc (own_setc (own_setc ho4 (fun k e => Nat.ne_of_lt (unhide HVB k e)) _) (fun k e => Nat.ne_of_lt (unhide HVB k e)) _) (fun k e => Nat.ne_of_lt (unhide HVB k e)) _
          have hR5 : Rd (((w4.setCell ⟨w1.heap.size, 0, none⟩ (.int .i64 3)).setCell ⟨w1.heap.size, 1, none⟩ (.int .i64 (1 + r2))).setCell ⟨w1.heap.size, 2, none⟩ (.string x)) R (p' + 2 + 1 + 1 + 1) :=
            ((hR4.set (by show R < w1.heap.size; omega) _).set (by show R < w1.heap.size; omega) _).set (by show R < w1.heap.size; omega) _
          have hg5 : w.grownBy (((w4.setCell ⟨w1.heap.size, 0, none⟩ (.int .i64 3)).setCell ⟨w1.heap.size, 1, none⟩ (.int .i64 (1 + r2))).setCell ⟨w1.heap.size, 2, none⟩ (.string x)) (some R) :=
            grown_set (grown_set (grown_set hg4 (by show w.heap.size ≤ w1.heap.size; omega) _) (by show w.heap.size ≤ w1.heap.size; omega) _) (by show w.heap.size ≤ w1.heap.size; omega) _
          go_wp2_with (at_builtin; refine wpList_append_own _ rfl _ _ 41 rfl w.heap.size 98 i0 _ 3 32 Try.underlying41 hi hz0 hz1 hz2 rfl (by decide) _ _ _ rfl (World.ownsRow.alloc ho5 _) ⟨w4.heap.size, 0, none⟩ 1 1 [.int .i64 3, .int .i64 (1 + r2), .string x] rfl rfl ?z1 ?z2 ?z3 ?z4 ?z5 ?_)
          case z1 => intro j u hj; have := cell_three_new (((w4.setCell ⟨w1.heap.size, 0, none⟩ (.int .i64 3)).setCell ⟨w1.heap.size, 1, none⟩ (.int .i64 (1 + r2))).setCell ⟨w1.heap.size, 2, none⟩ (.string x)) _ _ _ 98 j u hj; rw [size3] at this; exact this
          case z2 => intro u hu; simp at hu; rcases hu with rfl | rfl | rfl <;> rfl
          case z3 => unfold maxLen; omega
          case z4 => omega
          case z5 => simp; omega
          · intro v' w5 hown' hgrow _
            have RR := draw_app (c := ⟨3, 1 + r2, x⟩) hlt hg5 hR5 ho5 hown' hgrow
            have hl5 := hide (lenV_own RR.1)
            clear hown' hgrow
            go_wp2
            go_roundw
            case rel => exact ⟨t ++ [⟨3, 1 + r2, x⟩], o - 1 + (1 + r2), p' + 2 + 1 + 1 + 1, RR.1, by go_num, by omega, by simp; omega, by simp, all_snoc (unhide HD) hdc5, RR.2.1, by simp; omega, RR.2.2⟩
            case measure => rw [unhide hl5]; simp [lenV]; omega
        · have hrb : (r == 0) = false := by simpa using hr
          clear hr
          obtain ⟨q0, q1, q2, f0, f1, f2⟩ := agg_cells (unhide HBX)
          by_cases hk3 : c.k = 3
          · have hb3 : (c.k == 3) = true := by simpa using hk3
            have hcn : c.n = 0 := unhide HC3 hk3
            have hcn' : c.n ≤ 0 := by omega
            have hcn'' : 0 ≤ c.n := by omega
            clear hcn hk3
            go_wp2_with (at_builtin; refine wpList_append_own _ rfl _ _ 41 rfl w.heap.size 98 i0 _ 3 32 Try.underlying41 hi hz0 hz1 hz2 rfl (by decide) _ _ _ rfl (World.ownsRow.alloc ho2 _) ⟨w2.heap.size, 0, none⟩ 1 1 [.int .i64 c.k, .int .i64 c.n, .string c.s] rfl rfl ?bx1 ?bx2 ?bx3 ?bx4 ?bx5 ?_)
            case bx1 => exact cell_three_new _ _ _ _ _
            case bx2 => intro u hu; simp at hu; rcases hu with rfl | rfl | rfl <;> rfl
            case bx3 => unfold maxLen; omega
            case bx4 => omega
            case bx5 => simp; omega
            · intro v' w5 hown' hgrow _
              have RR := draw_app (c := c) hlt hg2 hR2 ho2 hown' hgrow
              have hl5 := hide (lenV_own RR.1)
              clear hown' hgrow
              go_wp2
              go_roundw
              case rel => exact ⟨t ++ [c], o - 1 + c.n, p' + 2 + 1, RR.1, by go_num, by omega, by simp; omega, by simp, all_snoc (unhide HD) (unhide HDc), RR.2.1, by simp; omega, RR.2.2⟩
              case measure => rw [unhide hl5]; simp [lenV]; omega
          · have hb3 : (c.k == 3) = false := by simpa using hk3
            clear hk3
            go_wp2_with (at_builtin; refine wpList_append_own _ rfl _ _ 41 rfl w.heap.size 98 i0 _ 3 32 Try.underlying41 hi hz0 hz1 hz2 rfl (by decide) _ _ _ rfl (World.ownsRow.alloc ho2 _) ⟨w2.heap.size, 0, none⟩ 1 1 [.int .i64 c.k, .int .i64 c.n, .string c.s] rfl rfl ?by1 ?by2 ?by3 ?by4 ?by5 ?_)
            case by1 => exact cell_three_new _ _ _ _ _
            case by2 => intro u hu; simp at hu; rcases hu with rfl | rfl | rfl <;> rfl
            case by3 => unfold maxLen; omega
            case by4 => omega
            case by5 => simp; omega
            · intro v' w5 hown' hgrow _
              have RR := draw_app (c := c) hlt hg2 hR2 ho2 hown' hgrow
              have hl5 := hide (lenV_own RR.1)
              clear hown' hgrow
              go_wp2
              go_roundw
              case rel => exact ⟨t ++ [c], o - 1, p' + 2 + 1, RR.1, by go_num, by omega, by simp; omega, by simp, all_snoc (unhide HD) (unhide HDc), RR.2.1, by simp; omega, RR.2.2⟩
              case measure => rw [unhide hl5]; simp [lenV]; omega
      · have hcd : decide ((t.length : Int) + o + 3 < most) = false := by simpa using hcond
        by_cases hk3 : c.k = 3
        · have hb3 : (c.k == 3) = true := by simpa using hk3
          have hcn : c.n = 0 := unhide HC3 hk3
          have hcn' : c.n ≤ 0 := by omega
          have hcn'' : 0 ≤ c.n := by omega
          clear hcn hk3
          go_wp2_with (at_builtin; refine wpList_append_own _ rfl _ _ 41 rfl w.heap.size 98 i0 _ 3 32 Try.underlying41 hi hz0 hz1 hz2 rfl (by decide) _ _ _ rfl (World.ownsRow.alloc (World.ownsRow.alloc ho1 _) _) ⟨w1.heap.size + 1, 0, none⟩ 1 1 [.int .i64 c.k, .int .i64 c.n, .string c.s] rfl rfl ?ax1 ?ax2 ?ax3 ?ax4 ?ax5 ?_)
          case ax1 => intro j u hj; have := cell_three_new (w1.alloc (.cells #[.int .i64 c.k, .int .i64 c.n, .string c.s] 98)) _ _ _ 98 j u hj; rw [World.size_alloc] at this; exact this
          case ax2 => intro u hu; simp at hu; rcases hu with rfl | rfl | rfl <;> rfl
          case ax3 => unfold maxLen; omega
          case ax4 => omega
          case ax5 => simp; omega
          · intro v' w5 hown' hgrow _
            have RR := draw_app (c := c) hlt (grown_trans hg1 (grown_alloc _ _ _)) (hR1.alloc _) (World.ownsRow.alloc ho1 _) hown' hgrow
            have hl5 := hide (lenV_own RR.1)
            clear hown' hgrow
            go_wp2
            go_roundw
            case rel => exact ⟨t ++ [c], o - 1 + c.n, p' + 2, RR.1, by go_num, by omega, by simp; omega, by simp, all_snoc (unhide HD) (unhide HDc), RR.2.1, by simp; omega, RR.2.2⟩
            case measure => rw [unhide hl5]; simp [lenV]; omega
        · have hb3 : (c.k == 3) = false := by simpa using hk3
          clear hk3
          go_wp2_with (at_builtin; refine wpList_append_own _ rfl _ _ 41 rfl w.heap.size 98 i0 _ 3 32 Try.underlying41 hi hz0 hz1 hz2 rfl (by decide) _ _ _ rfl (World.ownsRow.alloc (World.ownsRow.alloc ho1 _) _) ⟨w1.heap.size + 1, 0, none⟩ 1 1 [.int .i64 c.k, .int .i64 c.n, .string c.s] rfl rfl ?ay1 ?ay2 ?ay3 ?ay4 ?ay5 ?_)
          case ay1 => intro j u hj; have := cell_three_new (w1.alloc (.cells #[.int .i64 c.k, .int .i64 c.n, .string c.s] 98)) _ _ _ 98 j u hj; rw [World.size_alloc] at this; exact this
          case ay2 => intro u hu; simp at hu; rcases hu with rfl | rfl | rfl <;> rfl
          case ay3 => unfold maxLen; omega
          case ay4 => omega
          case ay5 => simp; omega
          · intro v' w5 hown' hgrow _
            have RR := draw_app (c := c) hlt (grown_trans hg1 (grown_alloc _ _ _)) (hR1.alloc _) (World.ownsRow.alloc ho1 _) hown' hgrow
            have hl5 := hide (lenV_own RR.1)
            clear hown' hgrow
            go_wp2
            go_roundw
            case rel => exact ⟨t ++ [c], o - 1, p' + 2, RR.1, by go_num, by omega, by simp; omega, by simp, all_snoc (unhide HD) (unhide HDc), RR.2.1, by simp; omega, RR.2.2⟩
            case measure => rw [unhide hl5]; simp [lenV]; omega
    · have h1l : 1 ≤ t.length := by
        by_cases h0 : t.length = 0
        · have := unhide HT0 h0; omega
        · omega
      go_wp2
      go_ret
      exact drew_mk hown h1l (by omega) (unhide HD) hR (by omega) hG
end Go.Proofs.Ytkedckmpjedjoaa

/- What is drawn: places that may be no term (l20Spoil), and either (l20TermOr). -/
namespace Go.Proofs.Ytkedckmpjedjoaa
open Go.RowKit
set_option linter.unusedVariables false
set_option linter.unusedSimpArgs false

theorem flat_set_k : ∀ (t : List C) (k : Nat) (h : k < t.length) (x : Int), (flat t).set (k * 3) (.int .i64 x) = flat (t.set k ⟨x, t[k].n, t[k].s⟩)
  | c :: t, 0, _, x => rfl
  | c :: t, k + 1, h, x => by
      have ih := flat_set_k t k (by simpa using h) x
      rw [flat_cons, show (k + 1) * 3 = k * 3 + 1 + 1 + 1 by omega, List.set_cons_succ, List.set_cons_succ, List.set_cons_succ, ih, List.set_cons_succ, flat_cons]
      rfl
theorem flat_set_n : ∀ (t : List C) (k : Nat) (h : k < t.length) (x : Int), (flat t).set (k * 3 + 1) (.int .i64 x) = flat (t.set k ⟨t[k].k, x, t[k].s⟩)
  | c :: t, 0, _, x => rfl
  | c :: t, k + 1, h, x => by
      have ih := flat_set_n t k (by simpa using h) x
      rw [flat_cons, show (k + 1) * 3 + 1 = k * 3 + 1 + 1 + 1 + 1 by omega, List.set_cons_succ, List.set_cons_succ, List.set_cons_succ, ih, List.set_cons_succ, flat_cons]
      rfl
theorem flat_set_s : ∀ (t : List C) (k : Nat) (h : k < t.length) (x : ByteArray), (flat t).set (k * 3 + 2) (.string x) = flat (t.set k ⟨t[k].k, t[k].n, x⟩)
  | c :: t, 0, _, x => rfl
  | c :: t, k + 1, h, x => by
      have ih := flat_set_s t k (by simpa using h) x
      rw [flat_cons, show (k + 1) * 3 + 2 = k * 3 + 2 + 1 + 1 + 1 by omega, List.set_cons_succ, List.set_cons_succ, List.set_cons_succ, ih, List.set_cons_succ, flat_cons]
      rfl
theorem flat_set3 (t : List C) (k : Nat) (h : k < t.length) (c : C) : (((flat t).set (k * 3) (.int .i64 c.k)).set (k * 3 + 1) (.int .i64 c.n)).set (k * 3 + 2) (.string c.s) = flat (t.set k c) := by
  rw [flat_set_k t k h, flat_set_n _ k (by simpa using h), flat_set_s _ k (by simpa using h)]
  simp

theorem flat_take (t : List C) (k : Nat) (h : k ≤ t.length) : (flat t).take (k * 3) = flat (t.take k) := by
  have e : flat t = flat (t.take k) ++ flat (t.drop k) := by rw [← flat_append, List.take_append_drop]
  rw [e, List.take_left' (by rw [flat_length]; simp; omega)]

theorem flat_one (t : List C) : ∀ u ∈ flat t, u.oneCell' = true := by
  intro u hu
  unfold flat at hu
  obtain ⟨c, _, hc⟩ := List.mem_flatMap.1 hu
  simp [cellsOf] at hc
  rcases hc with rfl | rfl | rfl <;> rfl

theorem all_set {P : C → Prop} {t : List C} {k : Nat} {c : C} (h : ∀ d ∈ t, P d) (hc : P c) : ∀ d ∈ t.set k c, P d := fun d hd => by
  rcases List.mem_or_eq_of_mem_set hd with h' | h'
  · exact h d h'
  · subst h'; exact hc

theorem At.each {w : World} {b off : Nat} {t : List C} (h : At w b off t) : ∀ j u, (flat t)[j]? = some u → w.cell? ((⟨b, off, none⟩ : Addr).add j) = some u := by
  intro j u hj
  have hl : j < t.length * 3 := by
    have := (List.getElem?_eq_some_iff.1 hj).1
    rw [flat_length] at this; exact this
  have hk : j / 3 < t.length := by omega
  have f := flat_get t (j / 3) hk
  have a := h (j / 3) hk
  have ad : (⟨b, off, none⟩ : Addr).add j = ⟨b, off + j, none⟩ := by
    unfold Addr.add
    by_cases h0 : j = 0
    · simp [h0]
    · simp [h0]
  rw [ad]
  obtain h0 | h0 | h0 : j = j / 3 * 3 ∨ j = j / 3 * 3 + 1 ∨ j = j / 3 * 3 + 2 := by omega
  · rw [h0, f.1] at hj; rw [h0, ← hj]; exact a.1
  · rw [h0, f.2.1] at hj; rw [h0, ← hj]; exact a.2.1
  · rw [h0, f.2.2] at hj; rw [h0, ← hj]; exact a.2.2

/-- A row of the call's own, behind its cut. -/
theorem own_cut {w : World} {base g cap k : Nat} {t : List C} (h : OwnC w base (.slice (some ⟨g, 0, none⟩) t.length cap) t) (hk : k ≤ t.length) : OwnC w base (.slice (some ⟨g, 0, none⟩) k cap) (t.take k) := by
  have hl : (t.take k).length = k := by simp; omega
  rcases h.2 with ⟨e, _⟩ | ⟨g', cap', cur, e, hb, hg, hn, hc, hcs, htake⟩
  · simp at e
  · simp only [Value.slice.injEq, Option.some.injEq, Addr.mk.injEq, and_true, true_and] at e
    obtain ⟨rfl, rfl⟩ := e
    unfold OwnC
    rw [hl]
    refine ⟨by rw [flat_length, hl], .inr ⟨g, cap, cur, rfl, hb, hg, by omega, hc, hcs, ?_⟩⟩
    rw [← flat_take t k hk, ← htake, List.take_take, Nat.min_eq_left (by omega)]

/-- A place of a row of the call's own. -/
theorem own_place {w : World} {base g cap k : Nat} {t : List C} (h : OwnC w base (.slice (some ⟨g, 0, none⟩) t.length cap) t) (hk : k < t.length) :
    w.cell? ⟨g, k * 3, none⟩ = some (.int .i64 t[k].k) ∧ w.cell? ⟨g, k * 3 + 1, none⟩ = some (.int .i64 t[k].n) ∧ w.cell? ⟨g, k * 3 + 2, none⟩ = some (.string t[k].s) ∧ w.frozen? ⟨g, k * 3, none⟩ = false ∧ w.frozen? ⟨g, k * 3 + 1, none⟩ = false ∧ w.frozen? ⟨g, k * 3 + 2, none⟩ = false := by
  have f := flat_get t k hk
  exact ⟨(h.cellAt (k * 3) (by omega)).trans f.1, (h.cellAt (k * 3 + 1) (by omega)).trans f.2.1, (h.cellAt (k * 3 + 2) (by omega)).trans f.2.2, h.frozenAt _, h.frozenAt _, h.frozenAt _⟩
end Go.Proofs.Ytkedckmpjedjoaa

/- The walk of l20Spoil. -/
namespace Go.Proofs.Ytkedckmpjedjoaa
open Go.RowKit
set_option linter.unusedVariables false
set_option linter.unusedSimpArgs false

theorem own_some {w : World} {base : Nat} {v : Value} {t : List C} (h : OwnC w base v t) (hl : 1 ≤ t.length) : ∃ g cap, v = .slice (some ⟨g, 0, none⟩) t.length cap ∧ base ≤ g ∧ g < w.heap.size ∧ t.length ≤ cap := by
  rcases h.2 with ⟨e, hn⟩ | ⟨g, cap, cur, e, hb, hg, hc, _⟩
  · omega
  · exact ⟨g, cap, e, hb, (Array.getElem?_eq_some_iff.1 hg).1, hc⟩

/-- What a write into a row of one's own leaves. -/
theorem drew_set {w W : World} {R p g cap : Nat} {t t' : List C} {xs : List Value} (hb : R < w.heap.size) (hg : w.grownBy W (some R)) (hR : Rd W R p) (hgb : w.heap.size ≤ g) (a : Addr) (ha : a.block = g) (u : Value) : w.grownBy (W.setCell a u) (some R) ∧ Rd (W.setCell a u) R p :=
  ⟨grown_set hg (by omega) u, hR.set (by omega) u⟩

theorem grown_undrew {w w4 : World} {row : Option Nat} (h : w.drew.grownBy w4 row) : w.grownBy w4 row := ⟨h.os, h.tape, h.output, h.size, h.block⟩
theorem cell_keep {w : World} {a : Addr} {v : Value} (h : w.cell? a = some v) (o : Obj) : (w.alloc o).cell? a = some v :=
  (World.cell?_of_block (Below.heap_alloc w o a.block (World.block_lt_of_cell? w a h))).trans h
theorem frozen_keep {w w4 : World} {R g off : Nat} (hG : w.grownBy w4 (some R)) (hg : g < w.heap.size) (hR : g ≠ R) (h : w.frozen? ⟨g, off, none⟩ = false) : w4.frozen? ⟨g, off, none⟩ = false :=
  (World.frozen?_of_block (a := ⟨g, off, none⟩) (hG.block g hg (by simpa using hR))).trans h
theorem frozen_keep2 {w w4 : World} {R g off : Nat} {o : Obj} (hG : (w.alloc o).grownBy w4 (some R)) (hg : g < w.heap.size) (hR : g ≠ R) (h : w.frozen? ⟨g, off, none⟩ = false) : w4.frozen? ⟨g, off, none⟩ = false :=
  (World.frozen?_of_block (a := ⟨g, off, none⟩) ((hG.block g (by simp; omega) (by simpa using hR)).trans (Below.heap_alloc w o g hg))).trans h

/-- The four numbers that may be added. -/
theorem lit4 (j : Nat) (hj : j < 4) : ∃ x : Int, -99999 ≤ x ∧ x ≤ 99999 ∧ (∀ W : World, (W.alloc (.cells #[.int .i64 1, .int .i64 (-1), .int .i64 99999, .int .i64 (-99999)] 3)).cell? ⟨W.heap.size, j, none⟩ = some (.int .i64 x)) ∧
    ∀ (W w2 : World) (R : Nat), R < W.heap.size → (W.alloc (.cells #[.int .i64 1, .int .i64 (-1), .int .i64 99999, .int .i64 (-99999)] 3)).grownBy w2 (some R) → w2.cell? ⟨W.heap.size, j, none⟩ = some (.int .i64 x) := by
  have hb : ∀ x ∈ ([1, -1, 99999, -99999] : List Int), -99999 ≤ x ∧ x ≤ 99999 := by decide
  have hx := hb _ (List.getElem_mem (l := [1, -1, 99999, -99999]) (n := j) (by simp; omega))
  exact ⟨([1, -1, 99999, -99999] : List Int)[j]'(by simp; omega), hx.1, hx.2, fun W => lit_ints W [1, -1, 99999, -99999] 3 j (by simp; omega), fun W w2 R hR hg => pick_lit (xs := [1, -1, 99999, -99999]) hR hg (by simp; omega)⟩

theorem drew_alloc {P : C → Prop} {w w' : World} {R p lo hi d : Nat} {e : Ending} (h : Drew P w R p lo hi d e w') (o : Obj) : Drew P w R p lo hi d e (w'.alloc o) := by
  obtain ⟨v, t, p', he, h1, h2, h3, h4, h5, h6, h7⟩ := h
  exact ⟨v, t, p', he, World.ownsRow.alloc h1 _, h2, h3, h4, h5.alloc _, h6, grown_trans h7 (grown_alloc _ _ _)⟩

theorem spoil_n {w W : World} {R p g cp k : Nat} {t : List C} {c : C} {x : Int} (hlt : R < w.heap.size) (hgb : w.heap.size ≤ g) (hk : k < t.length) (hc : c = t[k]) (hD : ∀ d ∈ t, Dc d) (hDs : Ds c) (hx0 : -99999 ≤ x) (hx1 : x ≤ 99999) (h40 : t.length ≤ 40)
    (hO : OwnC W w.heap.size (.slice (some ⟨g, 0, none⟩) t.length cp) t) (hR : Rd W R (p + 1 + 1 + 1)) (hg : w.grownBy W (some R)) :
    Drew Dc w R p 0 41 3 (.returned (.slice (some ⟨g, 0, none⟩) t.length cp)) (W.setCell ⟨g, k * 3 + 1, none⟩ (.int .i64 (IntKind.i64.wrap (c.n + x)))) := by
  have hds := hDs
  have hwr : IntKind.i64.wrap (c.n + x) = c.n + x := by
    obtain ⟨h1, h2, h3, h4, h5⟩ := hDs
    simp [IntKind.wrap, IntKind.bits, IntKind.signed]
    omega
  rw [hwr]
  have hst := (hO.stored (k * 3 + 1) (.int .i64 (c.n + x))).1
  rw [flat_set_n t k hk] at hst
  have hO5 : OwnC (W.setCell ⟨g, k * 3 + 1, none⟩ (.int .i64 (c.n + x))) w.heap.size (.slice (some ⟨g, 0, none⟩) t.length cp) (t.set k ⟨t[k].k, c.n + x, t[k].s⟩) := by unfold OwnC; rw [List.length_set]; exact hst
  obtain ⟨h1, h2, h3, h4, h5⟩ := hDs
  have hdc5 : Dc ⟨t[k].k, c.n + x, t[k].s⟩ := by rw [← hc]; exact dc_mk h1 h2 (by omega) (by omega) h5
  exact drew_mk hO5 (Nat.zero_le _) (by simp; omega) (all_set hD hdc5) (hR.set (by show R < g; omega) _) (by omega) (grown_set hg hgb _)

end Go.Proofs.Ytkedckmpjedjoaa

/- What is drawn, whole: l20TermOr, l20Open, and the draws of chapter 1 that are places alone. -/
namespace Go.Proofs.Ytkedckmpjedjoaa
open Go.RowKit
set_option linter.unusedVariables false
set_option linter.unusedSimpArgs false

theorem drew_wide {w w' : World} {R p lo hi d lo' hi' d' : Nat} {e : Ending} (h : Drew Ds w R p lo hi d e w') (h1 : lo' ≤ lo) (h2 : hi ≤ hi') (h3 : d ≤ d') : Drew Dc w R p lo' hi' d' e w' := by
  obtain ⟨v, t, p', he, a1, a2, a3, a4, a5, a6, a7⟩ := h
  exact ⟨v, t, p', he, a1, by omega, by omega, fun c hc => (a4 c hc).dc, a5, by omega, a7⟩

/-- Of places that were drawn: what the walks ask. -/
theorem dc_fit {t : List C} (h : ∀ c ∈ t, Dc c) : Fit t ∧ WfC t := by
  constructor
  · intro c hc
    obtain ⟨_, _, _, _, h5⟩ := h c hc
    unfold maxLen; omega
  · intro c hc
    obtain ⟨h1, h2, h3, h4, _⟩ := h c hc
    exact ⟨WalkArith.wf_i64 (by omega), WalkArith.wf_i64 (by omega)⟩

theorem rd_new {w : World} {ao : Option Addr} {len cap : Nat} {z : Nat → Int} (hl : len ≤ 2000) (hz : ∀ i, 0 ≤ z i ∧ z i ≤ 255) (hB : len = 0 ∨ ∃ b off, ao = some ⟨b, off, none⟩ ∧ ∀ i, i < len → w.cell? ⟨b, off + i, none⟩ = some (.int .u8 (z i))) :
    Rd (w.alloc (.cells #[.slice ao len cap, .int .i64 0] 179)) w.heap.size 0 := by
  refine ⟨ao, len, cap, z, heap_alloc_new w _, hl, hz, ?_⟩
  rcases hB with h | ⟨b, off, e, hc⟩
  · exact .inl h
  · by_cases h0 : len = 0
    · exact .inl h0
    · have hb : b < w.heap.size := World.block_lt_of_cell? w ⟨b, _, none⟩ (hc 0 (by omega))
      exact .inr ⟨b, off, e, hb, fun i hi => (World.cell?_of_block (a := ⟨b, _, none⟩) (Below.heap_alloc w _ b hb)).trans (hc i hi)⟩

set_option maxHeartbeats 400000 in
theorem open_any (ao : Option Addr) (len cap : Nat) (z : Nat → Int) (w : World) (h : Bin w ao len cap z) :
    Calls Try.prog 74 #[.slice ao len cap] w fun e w' => e = .returned (.pointer (some ⟨w.heap.size, 0, none⟩)) ∧ Rd w' w.heap.size 0 ∧ Below w.heap.size w w' := by
  obtain ⟨hc, hm, hz, hB⟩ := h
  unfold maxLen at hm
  have HZ := hide hz
  have HB := hide hB
  clear hz hB
  by_cases h2 : len ≤ 2000
  · have hR := hide (rd_new (cap := cap) h2 (unhide HZ) (unhide HB))
    go_enter Try.func74, Try.ntmps74
    go_wp2
    go_ret
    exact ⟨rfl, unhide hR, cell_below _ _⟩
  · have h2' : 2000 < len := by omega
    have hsome : ∃ b off, ao = some ⟨b, off, none⟩ ∧ ∀ i, i < len → w.cell? ⟨b, off + i, none⟩ = some (.int .u8 (z i)) := by
      rcases unhide HB with h | h
      · omega
      · exact h
    obtain ⟨b, off, rfl, hcell⟩ := hsome
    have hR := hide (rd_new (w := w) (ao := some ⟨b, off, none⟩) (cap := cap) (Nat.le_refl 2000) (unhide HZ) (.inr ⟨b, off, rfl, fun i hi => hcell i (by omega)⟩))
    clear hcell
    have hcp : 2000 ≤ cap := by omega
    go_enter Try.func74, Try.ntmps74
    go_wp2
    go_ret
    exact ⟨rfl, unhide hR, cell_below _ _⟩

/-- Places that a law draws from bytes. -/
def DrewB (w : World) (e : Ending) (w' : World) : Prop :=
  ∃ v t, e = .returned v ∧ OwnC w' w.heap.size v t ∧ t.length ≤ 41 ∧ (∀ c ∈ t, Dc c) ∧ Below w.heap.size w w'
theorem drewB_mk {w w1 w' : World} {e : Ending} (hb : Below w.heap.size w w1) (hs : w.heap.size < w1.heap.size) (h : Drew Dc w1 w.heap.size 0 0 41 300 e w') : DrewB w e w' := by
  obtain ⟨v, t, p', he, h1, h2, h3, h4, h5, h6, h7⟩ := h
  exact ⟨v, t, he, h1.base hb.size, h3, h4, hb.grown h7 hb.size (fun k e => by cases e; exact Nat.le_refl _)⟩

end Go.Proofs.Ytkedckmpjedjoaa

/- The plain mathematics of a term's text: as a tree has it, and as places are gone through with what is open. -/
namespace Go.Proofs.Ytkedckmpjedjoaa
set_option linter.unusedVariables false
set_option linter.unusedSimpArgs false

def lpB : ByteArray := ByteArray.mk #[40]
def rpB : ByteArray := ByteArray.mk #[41]
def cmB : ByteArray := ByteArray.mk #[44]

/-- Texts with a comma between two. -/
def joinB : List ByteArray → ByteArray
  | [] => ByteArray.empty
  | [u] => u
  | u :: v :: r => u ++ cmB ++ joinB (v :: r)

/-- A tree's text, by the words of its places. -/
inductive Txt (wd : C → ByteArray) : List C → ByteArray → Prop
  | leaf {c : C} : ari c = 0 → Txt wd [c] (wd c)
  | node {c : C} {ks : List (List C)} {us : List ByteArray} : ks ≠ [] → (ks.length : Int) = ari c → us.length = ks.length → (∀ i (h1 : i < ks.length) (h2 : i < us.length), Txt wd ks[i] us[i]) → Txt wd (c :: ks.flatten) (wd c ++ lpB ++ joinB us ++ rpB)

/-- What is closed behind a place that is whole. -/
def closeB : ByteArray → List Int → ByteArray × List Int
  | s, [] => (s, [])
  | s, n :: o => if n = 1 then closeB (s ++ rpB) o else (s ++ cmB, (n - 1) :: o)

/-- Places gone through: the text so far, and how many arguments are still to come of each name that is open, the last one first. -/
def mach (wd : C → ByteArray) : List C → ByteArray → List Int → ByteArray × List Int
  | [], s, o => (s, o)
  | c :: t, s, o => if c.k = 3 ∧ 0 < c.n then mach wd t (s ++ wd c ++ lpB) (c.n :: o) else mach wd t (closeB (s ++ wd c) o).1 (closeB (s ++ wd c) o).2

theorem ari_pos {c : C} (h : 0 < ari c) : c.k = 3 ∧ c.n = ari c := by
  unfold ari at h ⊢
  split at h
  · rename_i h3; exact ⟨h3, by rw [if_pos h3]⟩
  · omega
theorem ari_zero {c : C} (h : ari c = 0) : ¬ (c.k = 3 ∧ 0 < c.n) := fun ⟨h1, h2⟩ => by
  unfold ari at h
  rw [if_pos h1] at h
  omega

theorem mach_kids {wd : C → ByteArray} : ∀ (ks : List (List C)) (us : List ByteArray), ks ≠ [] → us.length = ks.length →
    (∀ i (h1 : i < ks.length) (h2 : i < us.length), ∀ rest s o, mach wd (ks[i] ++ rest) s o = mach wd rest (closeB (s ++ us[i]) o).1 (closeB (s ++ us[i]) o).2) →
    ∀ rest s o, mach wd (ks.flatten ++ rest) s ((ks.length : Int) :: o) = mach wd rest (closeB (s ++ joinB us ++ rpB) o).1 (closeB (s ++ joinB us ++ rpB) o).2
  | [k], [u], _, _, h, rest, s, o => by
      have := h 0 (by simp) (by simp) rest s (1 :: o)
      simp only [List.getElem_cons_zero] at this
      simp only [List.flatten_cons, List.flatten_nil, List.append_nil, List.length_cons, List.length_nil]
      rw [show (((0 + 1 : Nat)) : Int) = 1 by rfl, this]
      simp [closeB, joinB]
  | k :: k' :: ks, u :: u' :: us, _, hl, h, rest, s, o => by
      have h0 := h 0 (by simp) (by simp) ((k' :: ks).flatten ++ rest) s (((k :: k' :: ks).length : Int) :: o)
      simp only [List.getElem_cons_zero] at h0
      have ih := mach_kids (k' :: ks) (u' :: us) (by simp) (by simpa using hl) (fun i h1 h2 => h (i + 1) (Nat.succ_lt_succ h1) (Nat.succ_lt_succ h2)) rest (s ++ u ++ cmB) o
      rw [List.flatten_cons, List.append_assoc, h0]
      have hne : ¬ (((k :: k' :: ks).length : Int) = 1) := by simp only [List.length_cons]; omega
      simp only [closeB, if_neg hne]
      rw [show ((k :: k' :: ks).length : Int) - 1 = ((k' :: ks).length : Int) by simp only [List.length_cons]; omega, ih]
      simp only [joinB, ByteArray.append_assoc]
  | [], _, h, _, _, _, _, _ => absurd rfl h
  | [_], [], _, h, _, _, _, _ => by simp at h
  | [_], _ :: _ :: _, _, h, _, _, _, _ => by simp at h
  | _ :: _ :: _, [], _, h, _, _, _, _ => by simp at h
  | _ :: _ :: _, [_], _, h, _, _, _, _ => by simp at h

theorem mach_txt {wd : C → ByteArray} {t : List C} {u : ByteArray} (h : Txt wd t u) : ∀ rest s o, mach wd (t ++ rest) s o = mach wd rest (closeB (s ++ u) o).1 (closeB (s ++ u) o).2 := by
  induction h with
  | leaf h0 =>
    intro rest s o
    rw [List.singleton_append, mach, if_neg (ari_zero h0)]
  | @node c ks us hne hl hu hk ih =>
    intro rest s o
    have hp : 0 < ks.length := List.length_pos_iff.2 hne
    obtain ⟨h3, hn⟩ := ari_pos (c := c) (by omega)
    rw [List.cons_append, mach, if_pos ⟨h3, by omega⟩, hn, ← hl, mach_kids ks us hne hu ih]
    simp only [ByteArray.append_assoc]

/-- A term's text. -/
def textOf (wd : C → ByteArray) (t : List C) : ByteArray := (mach wd t ByteArray.empty []).1
theorem textOf_of {wd : C → ByteArray} {t : List C} {u : ByteArray} (h : Txt wd t u) : textOf wd t = u := by
  have := mach_txt h [] ByteArray.empty []
  rw [List.append_nil] at this
  unfold textOf
  rw [this]
  simp [mach, closeB]

theorem txt_all (wd : C → ByteArray) : ∀ (f : Nat) (t : List C), Tm f t → ∃ u, Txt wd t u
  | f + 1, t, ⟨c, ks, e, hl, hk⟩ => by
      subst e
      by_cases h0 : ks = []
      · subst h0
        exact ⟨wd c, by simpa using Txt.leaf (by simpa using hl.symm)⟩
      · have all : ∀ (l : List (List C)), (∀ k ∈ l, Tm f k) → ∃ us : List ByteArray, us.length = l.length ∧ ∀ i (h1 : i < l.length) (h2 : i < us.length), Txt wd l[i] us[i] := by
          intro l
          induction l with
          | nil => exact fun _ => ⟨[], rfl, fun i h => by simp at h⟩
          | cons x l ih =>
            intro hx
            obtain ⟨us, h1, h2⟩ := ih (fun k hk => hx k (by simp [hk]))
            obtain ⟨u, hu⟩ := txt_all wd f x (hx x (by simp))
            refine ⟨u :: us, by simp [h1], fun i a b => ?_⟩
            cases i with
            | zero => exact hu
            | succ i => exact h2 i (by simpa using a) (by simpa using b)
        obtain ⟨us, h1, h2⟩ := all ks hk
        exact ⟨_, .node h0 hl h1 h2⟩
end Go.Proofs.Ytkedckmpjedjoaa

/- Bytes in memory: a slice that leads to them, and what owns them. -/
namespace Go.Proofs.Ytkedckmpjedjoaa
open Go.RowKit
set_option linter.unusedVariables false
set_option linter.unusedSimpArgs false

/-- All are bytes. -/
def ByL (z : List Int) : Prop := ∀ x ∈ z, 0 ≤ x ∧ x ≤ 255
def AtY (w : World) (b off : Nat) (z : List Int) : Prop := ∀ i, (h : i < z.length) → w.cell? ⟨b, off + i, none⟩ = some (.int .u8 z[i])
def RowY (w : World) (ao : Option Addr) (z : List Int) : Prop := z = [] ∨ ∃ b off, ao = some ⟨b, off, none⟩ ∧ AtY w b off z

theorem ByL.get {z : List Int} (h : ByL z) (i : Nat) (hi : i < z.length) : 0 ≤ z[i] ∧ z[i] ≤ 255 := h _ (List.getElem_mem hi)
theorem ByL.nil : ByL [] := fun x h => by cases h
theorem ByL.one {x : Int} (h : 0 ≤ x ∧ x ≤ 255) : ByL [x] := fun y hy => by simp at hy; subst hy; exact h
theorem ByL.app {a b : List Int} (ha : ByL a) (hb : ByL b) : ByL (a ++ b) := fun x hx => by
  rcases List.mem_append.1 hx with h | h
  · exact ha x h
  · exact hb x h
theorem ByL.take {a : List Int} (ha : ByL a) (k : Nat) : ByL (a.take k) := fun x hx => ha x (List.mem_of_mem_take hx)
theorem ByL.drop {a : List Int} (ha : ByL a) (k : Nat) : ByL (a.drop k) := fun x hx => ha x (List.mem_of_mem_drop hx)

theorem AtY.below {w w' : World} {b off : Nat} {z : List Int} (h : AtY w b off z) (hb : Below w.heap.size w w') : AtY w' b off z := fun i hi =>
  (hb.cell (p := ⟨b, off + i, none⟩) (World.block_lt_of_cell? w ⟨b, _, none⟩ (h i hi))).trans (h i hi)
theorem RowY.below {w w' : World} {ao : Option Addr} {z : List Int} (h : RowY w ao z) (hb : Below w.heap.size w w') : RowY w' ao z := by
  rcases h with h | ⟨b, off, e, h⟩
  · exact .inl h
  · exact .inr ⟨b, off, e, h.below hb⟩
theorem AtY.lt {w : World} {b off : Nat} {z : List Int} (h : AtY w b off z) (hl : 0 < z.length) : b < w.heap.size :=
  World.block_lt_of_cell? w ⟨b, _, none⟩ (h 0 hl)
theorem AtY.take {w : World} {b off : Nat} {z : List Int} (h : AtY w b off z) (k : Nat) : AtY w b off (z.take k) := fun i hi => by
  have hi' : i < z.length := by simp at hi; omega
  rw [List.getElem_take]
  exact h i hi'
theorem AtY.drop {w : World} {b off : Nat} {z : List Int} (h : AtY w b off z) (k : Nat) : AtY w b (off + k) (z.drop k) := fun i hi => by
  have hi' : k + i < z.length := by simp at hi; omega
  rw [List.getElem_drop, Nat.add_assoc]
  exact h (k + i) hi'
theorem RowY.of_at {w : World} {b off : Nat} {z : List Int} (h : AtY w b off z) : RowY w (some ⟨b, off, none⟩) z := .inr ⟨b, off, rfl, h⟩

/-- The bytes as they lie. -/
def bys (z : List Int) : List Value := z.map (Value.int .u8)
theorem bys_length (z : List Int) : (bys z).length = z.length := by simp [bys]
theorem bys_get (z : List Int) (i : Nat) (h : i < z.length) : (bys z)[i]? = some (.int .u8 z[i]) := by simp [bys, h]
theorem bys_app (a b : List Int) : bys (a ++ b) = bys a ++ bys b := by simp [bys]
theorem bys_one (z : List Int) : ∀ u ∈ bys z, u.oneCell' = true := fun u hu => by
  obtain ⟨x, _, rfl⟩ := List.mem_map.1 hu
  rfl

/-- A slice value v owns the bytes z. -/
def OwnY (w : World) (base : Nat) (v : Value) (z : List Int) : Prop := w.ownsRow base 5 1 v z.length (bys z)

theorem ownsY_at {w : World} {base e g cap n : Nat} {z : List Int} (h : w.ownsRow base e 1 (.slice (some ⟨g, 0, none⟩) n cap) n (bys z)) (hn : n = z.length) : AtY w g 0 z := fun i hi => by
  have e0 := h.cellAt i (by omega)
  rw [Nat.zero_add]
  exact e0.trans (bys_get z i hi)

theorem OwnY.shape {w : World} {base : Nat} {v : Value} {z : List Int} (h : OwnY w base v z) : ∃ ao cap, v = .slice ao z.length cap ∧ RowY w ao z := by
  have h' := h
  rcases h.2 with ⟨e, hn⟩ | ⟨g, cap, cur, e, _⟩
  · refine ⟨none, 0, ?_, .inl (List.length_eq_zero_iff.1 hn)⟩
    rw [e, hn]
  · subst e
    exact ⟨_, _, rfl, .inr ⟨g, 0, rfl, ownsY_at h' rfl⟩⟩
theorem OwnY.row {w : World} {base : Nat} {ao : Option Addr} {n cap : Nat} {z : List Int} (h : OwnY w base (.slice ao n cap) z) : RowY w ao z := by
  obtain ⟨ao', cap', e, hR⟩ := h.shape
  simp only [Value.slice.injEq] at e
  obtain ⟨rfl, _, _⟩ := e
  exact hR
theorem OwnY.below {w w1 : World} {base : Nat} {v : Value} {z : List Int} (h : OwnY w base v z) (hb : Below w.heap.size w w1) : OwnY w1 base v z := own_below h hb
theorem OwnY.some {w : World} {base : Nat} {v : Value} {z : List Int} (h : OwnY w base v z) (hl : 0 < z.length) : ∃ g cap, v = .slice (some ⟨g, 0, none⟩) z.length cap ∧ base ≤ g ∧ g < w.heap.size ∧ AtY w g 0 z ∧ z.length ≤ cap ∧ cap ≤ maxLen := by
  have h' := h
  rcases h.2 with ⟨e, hn⟩ | ⟨g, cap, cur, e, hb, hg, hc, hm, _⟩
  · omega
  · subst e
    exact ⟨g, cap, rfl, hb, (Array.getElem?_eq_some_iff.1 hg).1, ownsY_at h' rfl, hc, hm⟩

/-- Bytes that came in are a list of bytes. -/
theorem Bin.list {w : World} {a : Option Addr} {len cap : Nat} {z : Nat → Int} (h : Bin w a len cap z) : ∃ y : List Int, y.length = len ∧ ByL y ∧ RowY w a y ∧ len ≤ cap ∧ cap ≤ maxLen := by
  obtain ⟨h1, h2, h3, h4⟩ := h
  refine ⟨(List.range len).map z, by simp, ?_, ?_, h1, h2⟩
  · intro x hx
    obtain ⟨i, _, rfl⟩ := List.mem_map.1 hx
    exact h3 i
  · rcases h4 with rfl | ⟨b, off, e, hc⟩
    · exact .inl rfl
    · refine .inr ⟨b, off, e, fun i hi => ?_⟩
      have hi' : i < len := by simpa using hi
      simpa using hc i hi'
end Go.Proofs.Ytkedckmpjedjoaa

/- The walks of eqByteS, caBytes, markByteS, heldByteS, toByteS. -/
namespace Go.Proofs.Ytkedckmpjedjoaa
open Go.RowKit
set_option linter.unusedVariables false
set_option linter.unusedSimpArgs false

/-- What markByteS writes. -/
def marksY (n : Nat) (k : Int) : List Int := (List.range n).map fun i : Nat => (k + (i : Int)) % 256

theorem marksY_length (n : Nat) (k : Int) : (marksY n k).length = n := by simp [marksY]
theorem marksY_get {n i : Nat} {k : Int} (h : i < (marksY n k).length) : (marksY n k)[i] = (k + i) % 256 := by simp [marksY]

theorem setY_take (xs : List Value) (j : Nat) (k : Int) (h : j < xs.length) (hx : xs.take j = bys (marksY j k)) : (xs.set j (.int .u8 ((k + j) % 256))).take (j + 1) = bys (marksY (j + 1) k) := by
  rw [List.take_succ_eq_append_getElem (by simpa using h), List.take_set_of_le (by omega), hx]
  simp [bys, marksY, List.range_succ]

theorem Try.infoByte : (Try.prog.info? 5).map (fun i => (i.zero, i.size, i.bytes)) = some (some (.int .u8 0), 1, 1) := by kernel_rfl

theorem toY_round {w wr : World} {g n k : Nat} {xs : List Value} {z : List Int} {x : Int} (hk : k < z.length) (hc : x = z[k]) (hn : n = z.length)
    (hown : wr.ownsRow w.heap.size 5 1 (.slice (some ⟨g, 0, none⟩) n n) n xs) (hx : xs.take k = bys (z.take k)) (hB : Below w.heap.size w wr) :
    ∃ xs', (wr.setCell ⟨g, k, none⟩ (.int .u8 x)).ownsRow w.heap.size 5 1 (.slice (some ⟨g, 0, none⟩) n n) n xs' ∧ xs'.take (k + 1) = bys (z.take (k + 1)) ∧ Below w.heap.size w (wr.setCell ⟨g, k, none⟩ (.int .u8 x)) := by
  have hgb : w.heap.size ≤ g ∧ g < wr.heap.size := hown.lt g rfl
  have hl : xs.length = n * 1 := hown.1
  refine ⟨_, (hown.stored k (.int .u8 x)).1, ?_, hB.setCell (p := ⟨g, _, none⟩) hgb.1 _⟩
  rw [List.take_succ_eq_append_getElem (by simp; omega), List.take_set_of_le (by omega), hx, List.take_succ_eq_append_getElem hk, bys_app, ← hc]
  simp [bys]

end Go.Proofs.Ytkedckmpjedjoaa

/- Nothing is laid here: no function of this seat asks for the tables. -/
namespace Go.Proofs.Ytkedckmpjedjoaa
end Go.Proofs.Ytkedckmpjedjoaa

/- Nothing is laid here: no function of this seat asks for the tables. -/
namespace Go.Proofs.Ytkedckmpjedjoaa
end Go.Proofs.Ytkedckmpjedjoaa

/- Numbers in bytes: appendHigh, appendNumber of the program, l6Put of the specification. -/
namespace Go.Proofs.Ytkedckmpjedjoaa
open Go.RowKit
set_option linter.unusedVariables false
set_option linter.unusedSimpArgs false
attribute [-go_sem] Go.Builtin.append_

/-- From v in w to v' in w': only v's own block has been written, and v' lies there or in new memory. -/
def Grew (w : World) (v : Value) (w' : World) (v' : Value) : Prop := w.grownBy w' v.ownBlock ∧ ∀ k, v'.ownBlock = some k → v.ownBlock = some k ∨ w.heap.size ≤ k
theorem Grew.refl (w : World) (v : Value) : Grew w v w v := ⟨grown_refl _ _, fun k h => .inl h⟩
theorem Grew.trans {w w1 w2 : World} {v v1 v2 : Value} (h : Grew w v w1 v1) (k : Grew w1 v1 w2 v2) : Grew w v w2 v2 := by
  refine ⟨⟨k.1.os.trans h.1.os, k.1.tape.trans h.1.tape, k.1.output.trans h.1.output, Nat.le_trans h.1.size k.1.size, fun i hi hn => ?_⟩, fun j hj => ?_⟩
  · refine (k.1.block i (Nat.lt_of_lt_of_le hi h.1.size) (fun e => ?_)).trans (h.1.block i hi hn)
    rcases h.2 i e.symm with h' | h'
    · exact hn h'.symm
    · omega
  · rcases k.2 j hj with h' | h'
    · exact h.2 j h'
    · exact .inr (Nat.le_trans h.1.size h')
theorem Grew.below {w w' : World} {v v' : Value} {base e size n : Nat} {xs : List Value} (h : Grew w v w' v') (ho : w.ownsRow base e size v n xs) (hb : base ≤ w.heap.size) : Below base w w' :=
  ((Below.refl _ w).mono hb |>.grown h.1 hb (fun k e => (ho.lt k e).1))
/-- A cell of another block than v's own is as it was. -/
theorem Grew.cell {w w' : World} {v v' : Value} (h : Grew w v w' v') {a : Addr} (hl : a.block < w.heap.size) (hn : v.ownBlock ≠ some a.block) : w'.cell? a = w.cell? a :=
  World.cell?_of_block (h.1.block a.block hl (fun e => hn e.symm))

/-- A byte of a number. -/
def hiB (n : Int) (k : Nat) : Int := (n / (2 : Int) ^ (8 * k)) % 256
def highs (n : Int) (s : Nat) : List Int := (List.range s).map fun j => hiB n (s - 1 - j)
theorem highs_length (n : Int) (s : Nat) : (highs n s).length = s := by simp [highs]
theorem highs_step {n : Int} {s j : Nat} (h : j < s) : (highs n s).take (j + 1) = (highs n s).take j ++ [hiB n (s - 1 - j)] := by
  rw [List.take_succ_eq_append_getElem (by simpa [highs] using h)]
  simp [highs]
theorem hiB_in (n : Int) (k : Nat) : 0 ≤ hiB n k ∧ hiB n k ≤ 255 := by
  unfold hiB
  have h1 := Int.emod_nonneg (n / (2 : Int) ^ (8 * k)) (show (256 : Int) ≠ 0 by omega)
  have h2 := Int.emod_lt_of_pos (n / (2 : Int) ^ (8 * k)) (show (0 : Int) < 256 by omega)
  omega
theorem highs_by (n : Int) (s : Nat) : ByL (highs n s) := fun x hx => by
  obtain ⟨j, _, rfl⟩ := List.mem_map.1 hx
  exact hiB_in n _

/-- One byte appended. -/
theorem app_byte {w1 : World} {v' : Value} {z : List Int} {x : Int} {base : Nat}
    (hown' : w1.ownsRow base 5 1 v' (z.length + 1) (bys z ++ [.int .u8 x])) : OwnY w1 base v' (z ++ [x]) := by
  unfold OwnY
  rw [show (z ++ [x]).length = z.length + 1 by simp, bys_app]
  exact hown'

/-- The run of an append of one new byte. -/
theorem app_one (w : World) (base : Nat) (v : Value) (z : List Int) (x : Int) (hO : OwnY w base v z) (hb : base ≤ w.heap.size) (hz : z.length ≤ 4194304) :
    ∃ v' w', (Builtin.append_ #[51, 51] 51 #[v, .slice (some ⟨w.heap.size, 0, none⟩) 1 1]).run Try.prog (w.alloc (.cells #[.int .u8 x] 5)) = .ok v' w' ∧ OwnY w' base v' (z ++ [x]) ∧ Grew w v w' v' := by
  obtain ⟨i0, hi, hz0, hz1, hz2⟩ := info_parts Try.infoByte
  obtain ⟨g, cap, w1, hr, ho, hg, hat, _⟩ := run_append_lies (P := Try.prog) (w.alloc (.cells #[.int .u8 x] 5)) 51 51 base 5 i0 _ 1 1 Try.underlying51 hi hz0 hz1 hz2 rfl (by decide) v z.length _ (World.ownsRow.alloc hO _) ⟨w.heap.size, 0, none⟩ 1 1 [.int .u8 x] rfl (cell_one_new _ _ _) (by simp [Value.oneCell']) (by omega) (by unfold maxLen; omega) (by omega) (by simp; omega) _ rfl
  refine ⟨_, _, hr, app_byte ho, ⟨?_, ?_⟩⟩
  · exact grown_trans (grown_below (cell_below _ _)) hg
  · intro k hk
    have e : g = k := by simpa [Value.ownBlock] using hk
    subst e
    rcases hat with h | h
    · exact .inl h
    · right; rw [h]; simp

theorem hiB0 (n : Int) : hiB n 0 = n % 256 := by simp [hiB]
theorem hiB1 (n : Int) : hiB n 1 = n / 256 % 256 := by simp [hiB]
theorem hiB2 (n : Int) : hiB n 2 = n / 65536 % 256 := by simp [hiB]

end Go.Proofs.Ytkedckmpjedjoaa

/- appendNumber of the program, l6Put of the specification. -/
namespace Go.Proofs.Ytkedckmpjedjoaa
open Go.RowKit
set_option linter.unusedVariables false
set_option linter.unusedSimpArgs false
attribute [-go_sem] Go.Builtin.append_

/-- The run of an append of bytes that lie somewhere. -/
theorem app_row (w : World) (base : Nat) (v : Value) (z y : List Int) (b off cap : Nat) (hO : OwnY w base v z) (hb : base ≤ w.heap.size) (hz : z.length + y.length ≤ 4194304) (hA : AtY w b off y) (h0 : 0 < y.length) :
    ∃ v' w', (Builtin.append_ #[51, 51] 51 #[v, .slice (some ⟨b, off, none⟩) y.length cap]).run Try.prog w = .ok v' w' ∧ OwnY w' base v' (z ++ y) ∧ Grew w v w' v' := by
  obtain ⟨i0, hi, hz0, hz1, hz2⟩ := info_parts Try.infoByte
  obtain ⟨g, c, w1, hr, ho, hg, hat, _⟩ := run_append_lies (P := Try.prog) w 51 51 base 5 i0 _ 1 1 Try.underlying51 hi hz0 hz1 hz2 rfl (by decide) v z.length _ hO ⟨b, off, none⟩ y.length cap (bys y) (by simp [bys]) (fun j u hj => by
    have hjl : j < y.length := by
      have := (List.getElem?_eq_some_iff.1 hj).1
      simpa [bys] using this
    rw [bys_get y j hjl] at hj
    have e : (⟨b, off, none⟩ : Addr).add j = ⟨b, off + j, none⟩ := by unfold Addr.add; split <;> simp_all
    rw [e, hA j hjl]
    exact hj) (bys_one y) h0 (by unfold maxLen; omega) (by omega) hb _ rfl
  refine ⟨_, _, hr, ?_, hg, ?_⟩
  · unfold OwnY
    rw [List.length_append, bys_app]
    exact ho
  · intro k hk
    have e : g = k := by simpa [Value.ownBlock] using hk
    subst e
    rcases hat with h | h
    · exact .inl h
    · right; omega

theorem atY_new (w : World) (y : List Int) : AtY (w.alloc (.cells (bys y).toArray 5)) w.heap.size 0 y := fun i hi => by
  have hb := heap_alloc_new w (.cells (bys y).toArray 5)
  simp only [World.cell?, hb]
  simpa using bys_get y i hi

/-- The run of an append of new bytes. -/
theorem app_newI (w : World) (base : Nat) (v : Value) (z y : List Int) (cs : Array Value) (hcs : cs = (bys y).toArray) (n : Nat) (hn : n = y.length) (hO : OwnY w base v z) (hb : base ≤ w.heap.size) (hz : z.length + y.length ≤ 4194304) (h0 : 0 < y.length) :
    ∃ v' w', (Builtin.append_ #[51, 51] 51 #[v, .slice (some ⟨w.heap.size, 0, none⟩) n n]).run Try.prog (w.alloc (.cells cs 5)) = .ok v' w' ∧ OwnY w' base v' (z ++ y) ∧ Grew w v w' v' := by
  subst hcs hn
  obtain ⟨v', w', hr, ho, hg⟩ := app_row (w.alloc (.cells (bys y).toArray 5)) base v z y w.heap.size 0 y.length (hO.below (cell_below _ _)) (by simp; omega) hz (atY_new w y) h0
  refine ⟨v', w', hr, ho, grown_trans (grown_below (cell_below _ _)) hg.1, fun k hk => ?_⟩
  rcases hg.2 k hk with h | h
  · exact .inl h
  · right; simp at h; omega

def num3 (n : Int) : List Int := highs (n + 100000) 3
theorem num3_eq (n : Int) : num3 n = [(n + 100000) / 65536 % 256, (n + 100000) / 256 % 256, (n + 100000) % 256] := by
  simp [num3, highs, List.range_succ, hiB]

theorem made_noneY (w : World) (base : Nat) (hb : base ≤ w.heap.size) : OwnY (w.alloc (.cells #[] 5)) base (.slice (some ⟨w.heap.size, 0, none⟩) 0 0) [] := World.ownsRow_made w #[] 0 hb (by simp [maxLen]) rfl

end Go.Proofs.Ytkedckmpjedjoaa

/- A term in bytes, by lists; the specification's TrmBytes. -/
namespace Go.Proofs.Ytkedckmpjedjoaa
open Go.RowKit
set_option linter.unusedVariables false
set_option linter.unusedSimpArgs false
attribute [-go_sem] Go.Builtin.append_

/-- A text's bytes. -/
def bytesL (s : ByteArray) : List Int := s.data.toList.map fun b => (b.toNat : Int)
theorem bytesL_length (s : ByteArray) : (bytesL s).length = s.size := by simp [bytesL]
theorem bytesL_by (s : ByteArray) : ByL (bytesL s) := fun x hx => by
  obtain ⟨b, _, rfl⟩ := List.mem_map.1 hx
  have := b.toNat_lt
  omega
theorem strCells_bys (s : ByteArray) : Go.Lib.strCells s = bys (bytesL s) := by
  simp [Go.Lib.strCells, bys, bytesL]

/-- A place in bytes. -/
def encC (c : C) : List Int := [c.k] ++ num3 c.n ++ if c.k = 3 then [(c.s.size : Int)] ++ bytesL c.s else []
def encL (t : List C) : List Int := t.flatMap encC
/-- A term in bytes; none, if it is none. -/
def encT (t : List C) : List Int := if trm t then [(t.length : Int)] ++ encL t else []

theorem num3_length (n : Int) : (num3 n).length = 3 := by simp [num3, highs]
theorem okC_parts {c : C} (h : okC c = true) : (c.k = 1 ∨ c.k = 2 ∨ c.k = 3) ∧ -9999 ≤ c.n ∧ c.n ≤ 99999 ∧ c.s.size ≤ 8 := by
  by_cases h1 : c.k = 1
  · have := (okC1 h1).1 h
    omega
  by_cases h2 : c.k = 2
  · have := (okC2 h2).1 h
    omega
  by_cases h3 : c.k = 3
  · have := (okC3 h3).1 h
    have h4 := this.2.2
    unfold nameB at h4
    simp only [Bool.and_eq_true, decide_eq_true_eq] at h4
    omega
  · rw [okC4 h1 h2 h3] at h
    cases h
theorem encC_length {c : C} (h : okC c = true) : (encC c).length ≤ 13 := by
  have := okC_parts h
  unfold encC
  rw [List.length_append, List.length_append, num3_length]
  split
  · rw [List.length_append, bytesL_length]
    simp
    omega
  · simp
theorem encL_length : ∀ (t : List C), (∀ c ∈ t, okC c = true) → (encL t).length ≤ 13 * t.length
  | [], _ => by simp [encL]
  | c :: t, h => by
      have h1 := encC_length (h c (by simp))
      have h2 := encL_length t (fun x hx => h x (by simp [hx]))
      unfold encL at h2 ⊢
      rw [List.flatMap_cons, List.length_append, List.length_cons]
      omega
theorem encL_take {t : List C} {k : Nat} (h : k < t.length) : encL (t.take (k + 1)) = encL (t.take k) ++ encC t[k] := by
  unfold encL
  rw [List.take_succ_eq_append_getElem h, List.flatMap_append]
  simp
theorem by_mod (x : Int) : 0 ≤ x % 256 ∧ x % 256 ≤ 255 := by
  have h1 := Int.emod_nonneg x (show (256 : Int) ≠ 0 by omega)
  have h2 := Int.emod_lt_of_pos x (show (0 : Int) < 256 by omega)
  omega
theorem encC_by {c : C} (h : okC c = true) : ByL (encC c) := by
  have hp := okC_parts h
  unfold encC
  refine ByL.app (ByL.app (ByL.one (by omega)) (highs_by _ _)) ?_
  split
  · exact ByL.app (ByL.one (by omega)) (bytesL_by _)
  · exact ByL.nil
theorem encL_by {t : List C} (h : ∀ c ∈ t, okC c = true) : ByL (encL t) := fun x hx => by
  obtain ⟨c, hc, h'⟩ := List.mem_flatMap.1 hx
  exact encC_by (h c hc) x h'
theorem encT_by (t : List C) : ByL (encT t) := by
  unfold encT
  split
  · rename_i h
    have h1 := (trm_iff t).1 h
    exact ByL.app (ByL.one (by omega)) (encL_by h1.2.2.1)
  · exact ByL.nil
theorem encT_length (t : List C) : (encT t).length ≤ 521 := by
  unfold encT
  split
  · rename_i h
    have h1 := (trm_iff t).1 h
    have h2 := encL_length t h1.2.2.1
    simp
    omega
  · simp

/-- The run of an append of a text's bytes. -/
theorem app_str (w : World) (base : Nat) (v : Value) (z : List Int) (s : ByteArray) (hO : OwnY w base v z) (hb : base ≤ w.heap.size) (hz : z.length + s.size ≤ 4194304) :
    ∃ v' w', (Builtin.append_ #[51, 9] 51 #[v, .string s]).run Try.prog w = .ok v' w' ∧ OwnY w' base v' (z ++ bytesL s) ∧ w.grownBy w' v.ownBlock := by
  obtain ⟨i0, hi, hz0, hz1, hz2⟩ := info_parts Try.infoByte
  obtain ⟨v', w', hr, ho, hg, _⟩ := Go.Lib.run_append_own_string (P := Try.prog) w base 51 9 51 5 i0 Try.underlying51 Try.underlying9 hi hz0 hz1 hz2 v z.length (bys z) hO s (by unfold maxLen; omega) (by omega) hb
  refine ⟨v', w', hr, ?_, hg⟩
  unfold OwnY
  rw [List.length_append, bys_app, bytesL_length, ← strCells_bys]
  exact ho

/-- New bytes are owned. -/
theorem own_new (w : World) (base : Nat) (y : List Int) (cs : Array Value) (hcs : cs = (bys y).toArray) (n : Nat) (hn : n = y.length) (hb : base ≤ w.heap.size) (hl : y.length ≤ 4194304) :
    OwnY (w.alloc (.cells cs 5)) base (.slice (some ⟨w.heap.size, 0, none⟩) n n) y := by
  subst hcs hn
  refine ⟨by simp [bys], .inr ⟨w.heap.size, y.length, _, rfl, hb, heap_alloc_new w _, Nat.le_refl _, by unfold maxLen; omega, by simp [bys], ?_⟩⟩
  simp [bys, List.take_of_length_le]

end Go.Proofs.Ytkedckmpjedjoaa

/- The places of a tree in new memory; nil where they are no term. -/
namespace Go.Proofs.Ytkedckmpjedjoaa
open Go.RowKit Go.Shelf
set_option linter.unusedVariables false
set_option linter.unusedSimpArgs false
attribute [local go_sem] Oper.semAt_some
attribute [-go_sem] Go.Builtin.append_

set_option maxRecDepth 100000 in
set_option maxHeartbeats 2000000 in
theorem list_any2 (f p : Nat) (z : List (Nat × C)) (t : List C) (ht : Hid (z.map (·.2) = t)) (w : World) (hS : Shp w.heap.size w f p (z.map (·.1))) (hH : ∀ x ∈ z, Held w.heap.size w x) (hlen : z.length ≤ 1048576) (hF : Fit t) :
    Calls Try.prog 148 #[.pointer (some ⟨p, 0, none⟩)] w fun e w' => ∃ v, e = .returned v ∧ OwnC w' w.heap.size v (listed t) ∧ (trm t = false → v = .slice none 0 0) ∧ Below w.heap.size w w' := by
  obtain ⟨xs, hxs⟩ := lift_sub z hH
  obtain ⟨i0, hi, hz0, hz1, hz2⟩ := info_parts Try.infoCell
  refine (callsIn_wide (n := 5)).1 ?_
  refine callsIn_of_wp_marks Try.func148 rfl trivial ?_ rfl
  simp only [Try.ntmps148, List.size_toArray, List.length_cons, List.length_nil, Nat.reduceAdd, Nat.reduceSub, Array.replicate_succ, Array.replicate_zero, List.push_toArray, List.append_toArray, List.nil_append, List.cons_append]
  gi_wp2_with (refine ⟨trivial, ?_⟩; gi_at_call 170; refine (nodes_in Fence.wide _ trivial rfl _ _).mono ?_; rintro e w' ⟨rfl, rfl⟩)
  have bO := Boxed.new w 41 (.slice none 0 0)
  have bN := Boxed.new (w.alloc (.cells #[.slice none 0 0] 41)) 100 (.pointer (some ⟨p, 0, none⟩))
  rw [World.size_alloc] at bN
  have hB0 : Below w.heap.size w ((w.alloc (.cells #[.slice none 0 0] 41)).alloc (.cells #[.pointer (some ⟨p, 0, none⟩)] 100)) := ((Below.refl _ w).alloc (Nat.le_refl _) _).alloc (by simp) _
  have hxl : xs.length ≤ 1048576 := by rw [← hxs] at hlen; simpa using hlen
  refine wpIn_rangeFunc_ownG rfl (by omega) (gf := 183) (lb := #[.pointer (some ⟨w.heap.size + 1, 0, none⟩)]) rfl trivial (enters_of Try.func183 (by kernel_rfl) rfl)
    (nodes_stops (fun x : {x : Nat × C // Held w.heap.size w x} => x.1.1) Fence.wide rfl _ trivial trivial rfl (w.heap.size + 1) w.heap.size f p _ xs _ (by simp) (by simp; omega) bN.cell (hS.below hB0) (by rw [← hxs]; simp)) kpsK_t (kpsK_b (by simp; omega)) (Below.refl _ _) (fun _ => rfl)
    (fun pre W => (∃ v, Boxed W w.heap.size 41 v ∧ W.ownsRow w.heap.size 98 3 v pre.length (flat (pre.map (·.1.2))) ∧ True) ∧ Below w.heap.size w W)
    (fun _ _ _ => False)
    (OwnFrom.and (Own.from (holdsRow_own w.heap.size w.heap.size 41 98 3 (fun pre : List {x : Nat × C // Held w.heap.size w x} => pre.length) (fun pre => flat (pre.map (·.1.2))) (fun pre v => True)) _) (ownFrom_below (Nat.le_refl _) (by simp; omega)))
    (fun _ _ _ _ _ hs _ _ => hs)
    ⟨⟨_, bO.alloc _, World.ownsRow_nil _ _ _ _, trivial⟩, hB0⟩
    (fun x => { tmps := #[.pointer (some ⟨p, 0, none⟩), undef, .slice none 0 0, .pointer (some ⟨w.heap.size, 0, none⟩), .pointer (some ⟨x.1.1, 0, none⟩), .pointer (some ⟨p, 0, none⟩), .func (.func 183) #[] #[.pointer (some ⟨w.heap.size + 1, 0, none⟩)], .pointer (some ⟨x.1.1, 0, none⟩), undef, undef, undef, undef, undef, undef, undef, undef, undef, undef, undef], defers := [] }) ?assign ?body ?done ?stop
  case assign =>
    intro l x W K hK
    gi_wp2
    exact hK
  case body =>
    rintro l pre x W ⟨⟨v, hv, hrow, _⟩, hB⟩ hlt
    have hc := hv.cell
    obtain ⟨⟨g, c⟩, hx⟩ := x
    obtain ⟨_, h0, h1, h2⟩ := hx.below hB
    dsimp only at h0 h1 h2
    have hmx : Try.prog.follows .mixedOrders = true := by kernel_rfl
    obtain ⟨g', cap', w1, hr, hown', hgrow, hat, hgl⟩ := run_append_lies (P := Try.prog) (W.drew.alloc (.cells #[.int .i64 c.k, .int .i64 c.n, .string c.s] 98)) 41 41 w.heap.size 98 i0 _ 3 32 Try.underlying41 hi hz0 hz1 hz2 rfl (by decide) v pre.length _ (World.ownsRow.alloc (World.ownsRow.drew hrow) _) ⟨W.heap.size, 0, none⟩ 1 1 [.int .i64 c.k, .int .i64 c.n, .string c.s] rfl (cell_three_new W.drew _ _ _ _) (by simp [Value.oneCell']) (by omega) (by unfold maxLen; omega) (by omega) (by have := hB.size; simp; omega) _ rfl
    have hr' : Sem.run Try.prog (Builtin.append_ #[41, 41] 41 #[v, .slice (some ⟨W.heap.size, 0, none⟩) 1 1]) (W.alloc (.cells #[.int .i64 c.k, .int .i64 c.n, .string c.s] 98)).drew = .ok (.slice (some ⟨g', 0, none⟩) (pre.length + 1) cap') w1 := hr
    clear hr
    obtain ⟨hv1, hv2, hr2, hk2, hb2⟩ := Boxed.appended (W := W.drew) (show Boxed W.drew _ _ v from hv) (by decide) (World.ownsRow.drew hrow) hB.size (Nat.le_refl _) hown' hgrow
    have hc1 := hv1.cell
    have hf1 := hv1.frozen
    have hlt0 := hv.lt
    have hcA : (W.alloc (.cells #[.int .i64 c.k, .int .i64 c.n, .string c.s] 98)).cell? ⟨w.heap.size, 0, none⟩ = some v := (hv.alloc _).cell
    have FIN : KeepsFrom ((w.alloc (.cells #[.slice none 0 0] 41)).alloc (.cells #[.pointer (some ⟨p, 0, none⟩)] 100)).heap.size W (w1.setCell ⟨w.heap.size, 0, none⟩ (.slice (some ⟨g', 0, none⟩) (pre.length + 1) cap')) ∧ KpS w.heap.size W (w1.setCell ⟨w.heap.size, 0, none⟩ (.slice (some ⟨g', 0, none⟩) (pre.length + 1) cap')) ∧
        ((∃ v, Boxed (w1.setCell ⟨w.heap.size, 0, none⟩ (.slice (some ⟨g', 0, none⟩) (pre.length + 1) cap')) w.heap.size 41 v ∧ (w1.setCell ⟨w.heap.size, 0, none⟩ (.slice (some ⟨g', 0, none⟩) (pre.length + 1) cap')).ownsRow w.heap.size 98 3 v (pre ++ [(⟨(g, c), hx⟩ : {x : Nat × C // Held w.heap.size w x})]).length (flat ((pre ++ [(⟨(g, c), hx⟩ : {x : Nat × C // Held w.heap.size w x})]).map (·.1.2))) ∧ True) ∧ Below w.heap.size w (w1.setCell ⟨w.heap.size, 0, none⟩ (.slice (some ⟨g', 0, none⟩) (pre.length + 1) cap'))) :=
      ⟨((KeepsOthers.drew W).trans hk2).from _, KpS.of_below (((Below.refl _ W).drew).trans hb2), ⟨_, hv2, by rw [List.length_append, List.map_append, flat_append]; exact hr2, trivial⟩, hB.trans (((Below.refl _ W).drew).trans hb2)⟩
    have HFIN := hide FIN
    clear FIN
    gi_wp2
    gi_region_with_o (fail)
    all_goals gi_wp2
    all_goals exact unhide HFIN
  case done =>
    rintro D ys W hD rfl ⟨⟨v, hv, hrow, _⟩, hB⟩ hK
    have hc := hv.cell
    have hO : OwnC W w.heap.size v t := by unfold OwnC; rw [← unhide ht, ← hxs, List.map_map]; simp only [List.length_map]; exact hrow
    have htl : t.length ≤ 1048576 := by rw [← unhide ht, List.length_map]; exact hlen
    clear hrow hxs hS hH hlen hxl bO bN
    obtain ⟨ao, cap, rfl, hR⟩ := hO.shape
    have H := hide (TrmOk_any ao cap t W (by simp [maxLen]; omega) hR hF)
    have HO := hide hO
    clear hO
    have hDl : D < W.heap.size := (Array.getElem?_eq_some_iff.1 hK).1
    have hbl := hv.lt
    cases hok : trm t with
    | false =>
      rw [hok] at H
      gi_wp2_with (refine ⟨trivial, ?_⟩; gi_at_call 82; refine (callsIn_wide.2 (unhide H)).mono ?_; rintro e w' ⟨rfl, hb1⟩)
      refine ⟨by simp, .inl ⟨_, _, rfl, run_takeDeferred ((hb1.block D hDl).trans hK), ?_⟩⟩
      refine ⟨_, results_tmp rfl _ _ _, _, rfl, ?_, fun _ => rfl, (bstep hB hb1).trans (belowK_b (w := w) (Nat.le_refl _) _ D _ _ (by simp at hD; omega) ((hb1.block D hDl).trans hK) rfl rfl)⟩
      unfold listed
      rw [hok]
      exact World.ownsRow_nil _ _ _ _
    | true =>
      rw [hok] at H
      gi_wp2_with (refine ⟨trivial, ?_⟩; gi_at_call 82; refine (callsIn_wide.2 (unhide H)).mono ?_; rintro e w' ⟨rfl, hb1⟩; have hc' := (hb1.cell (p := ⟨w.heap.size, 0, none⟩) hbl).trans hc)
      refine ⟨by simp, .inl ⟨_, _, rfl, run_takeDeferred ((hb1.block D hDl).trans hK), ?_⟩⟩
      refine ⟨_, results_tmp rfl _ _ _, _, rfl, ?_, fun hh => (by first | (rw [hok] at hh; cases hh) | cases hh), (bstep hB hb1).trans (belowK_b (w := w) (Nat.le_refl _) _ D _ _ (by simp at hD; omega) ((hb1.block D hDl).trans hK) rfl rfl)⟩
      unfold listed
      rw [hok]
      exact ownsRow_putObj (OwnC.below (unhide HO) hb1) _ ((hb1.block D hDl).trans hK) rfl
  case stop =>
    rintro D c pre W _ _ h _
    exact h.elim
end Go.Proofs.Ytkedckmpjedjoaa
