import Derived.Test.YtjjpmlcaapedhaaDoorQPX1YM
import Derived.Test.YtjjpmlcaapedhaaDoorQSB1Plain2YB3
import Derived.Lib.ItoaNum
import Derived.Shelf.Strings.Builder1
/- The words of a term's places: decimals, without memory. -/
namespace Go.Proofs.YtjjpmlcaapedhaaDoor
set_option linter.unusedVariables false
set_option linter.unusedSimpArgs false

theorem ba_ext {a b : ByteArray} (h : a.data = b.data) : a = b := by cases a; cases b; simp_all
theorem ba_mk (a b : Array UInt8) : (⟨a⟩ : ByteArray) ++ ⟨b⟩ = ⟨a ++ b⟩ := ba_ext (by simp [ByteArray.data_append])
/-- Decimals. -/
def decB (n : Nat) : ByteArray := ⟨(Go.Lib.decDigits n).toArray⟩
def numB (n : Int) : ByteArray := ⟨(Go.Lib.itoa n).toArray⟩
def xB : ByteArray := ⟨#[88]⟩
def mnB : ByteArray := ⟨#[45]⟩
/-- The word of a place, but for its arguments. -/
def wordB (c : C) : ByteArray := if c.k = 1 then xB ++ numB c.n else if c.k = 2 then numB c.n else c.s
theorem numB_pos {n : Int} (h : 0 ≤ n) : numB n = decB n.toNat := by
  unfold numB decB Go.Lib.itoa
  rw [if_neg (by omega)]
theorem numB_neg {n : Int} (h : n < 0) : numB n = mnB ++ decB (-n).toNat := by
  unfold numB decB Go.Lib.itoa mnB
  rw [if_pos h, ba_mk]
  refine ba_ext ?_
  rw [show n.natAbs = (-n).toNat by omega]
  simp
theorem decB_small {n : Nat} (h : n < 10) : decB n = ⟨#[UInt8.ofNat (48 + n)]⟩ := by
  unfold decB
  rw [Go.Lib.decDigits, dif_pos h]
theorem decB_step {n : Nat} (h : ¬ n < 10) : decB n = decB (n / 10) ++ ⟨#[UInt8.ofNat (48 + n % 10)]⟩ := by
  unfold decB
  rw [Go.Lib.decDigits, dif_neg h, ba_mk]
  refine ba_ext ?_
  simp
theorem one_size (x : UInt8) : (⟨#[x]⟩ : ByteArray).size = 1 := rfl
theorem decB_size : ∀ (k n : Nat), n < 10 ^ (k + 1) → (decB n).size ≤ k + 1
  | 0, n, h => by
      rw [decB_small (by simpa using h), one_size]
      exact Nat.le_refl _
  | k + 1, n, h => by
      by_cases hs : n < 10
      · rw [decB_small hs, one_size]
        omega
      · rw [decB_step hs, ByteArray.size_append, one_size]
        have := decB_size k (n / 10) (by rw [Nat.pow_succ] at h; omega)
        omega
theorem wordB_size {c : C} (h : okC c = true) : (wordB c).size ≤ 8 := by
  obtain ⟨_, h1, h2, hp⟩ := okC_parts h
  have hd : (numB c.n).size ≤ 6 := by
    by_cases h0 : c.n < 0
    · rw [numB_neg h0, ByteArray.size_append]
      have := decB_size 4 (-c.n).toNat (by rw [show 10 ^ (4 + 1) = 100000 from rfl]; omega)
      have e : mnB.size = 1 := rfl
      omega
    · rw [numB_pos (by omega)]
      have := decB_size 4 c.n.toNat (by rw [show 10 ^ (4 + 1) = 100000 from rfl]; omega)
      omega
  unfold wordB
  split
  · rw [ByteArray.size_append]
    have e : xB.size = 1 := rfl
    omega
  · split
    · omega
    · exact hp
end Go.Proofs.YtjjpmlcaapedhaaDoor

/- A strings.Builder of the program: its writing. -/
namespace Go.Proofs.YtjjpmlcaapedhaaDoor
open Go.RowKit
set_option linter.unusedVariables false
set_option linter.unusedSimpArgs false
attribute [-go_sem] Go.Builtin.append_

/-- A builder in block b that holds a text. -/
def Bld (w : World) (B b : Nat) (s : ByteArray) : Prop :=
  B ≤ b ∧ ∃ p v, w.heap[b]? = some (.cells #[p, v] 78 (0, 0)) ∧ (p = .pointer none ∨ p = .pointer (some ⟨b, 0, none⟩)) ∧ OwnY w B v (bytesL s) ∧ v.ownBlock ≠ some b
theorem two_b {w : World} {B : Nat} {a0 a1 : Value} {T : TypeId} (h : w.heap[B]? = some (.cells #[a0, a1] T (0, 0))) :
    w.cell? ⟨B, 0, none⟩ = some a0 ∧ w.cell? ⟨B, 1, none⟩ = some a1 ∧ w.frozen? ⟨B, 0, none⟩ = false ∧ w.frozen? ⟨B, 1, none⟩ = false := by
  refine ⟨?_, ?_, ?_, ?_⟩ <;> (simp only [World.cell?, World.frozen?]; rw [h]; rfl)
theorem Bld.below {w w' : World} {B b : Nat} {s : ByteArray} (h : Bld w B b s) (hb : Below w.heap.size w w') : Bld w' B b s := by
  obtain ⟨h1, p, v, h2, h3, h4, h5⟩ := h
  exact ⟨h1, p, v, (hb.block b (Array.getElem?_eq_some_iff.1 h2).1).trans h2, h3, own_below h4 hb, h5⟩
theorem Bld.lt {w : World} {B b : Nat} {s : ByteArray} (h : Bld w B b s) : b < w.heap.size := by
  obtain ⟨_, p, v, h2, _⟩ := h
  exact (Array.getElem?_eq_some_iff.1 h2).1
theorem bld_shape {w : World} {b : Nat} {a0 a1 : Value} {T : TypeId} (h : w.heap[b]? = some (.cells #[a0, a1] T (0, 0))) : w.shape? b = some (T, 2) := by
  simp [World.shape?, h]

theorem grown_setB (w : World) (p : Addr) (v : Value) : w.grownBy (w.setCell p v) (some p.block) :=
  ⟨rfl, rfl, rfl, by simp, fun k _ hk => heap_setCell_other w p k v (fun e => hk (by simp [e]))⟩
theorem sizeBld : (Tryd.prog.info? 78).map (·.size) = some 2 := by kernel_rfl
theorem liesBld : liesAt Tryd.prog Tryd.prog.depth 78 (2 / Tryd.prog.cellsOf 78) 0 78 1 = true := by kernel_rfl

set_option maxHeartbeats 1000000 in
set_option maxRecDepth 100000 in
theorem copyCheck_any (B b : Nat) (s : ByteArray) (w : World) (h : Bld w B b s) :
    Calls Tryd.prog 68 #[.pointer (some ⟨b, 0, none⟩)] w fun e w' => e = .returned (.tuple #[]) ∧ Bld w' B b s ∧ Below B w w' := by
  obtain ⟨j, hj, hjs⟩ := Option.map_eq_some_iff.1 sizeBld
  have hh := h
  obtain ⟨hB, p, v, hX, hp, hO, hne⟩ := h
  obtain ⟨c0, c1, f0, f1⟩ := two_b hX
  rcases hp with rfl | rfl
  · have HF : Hid (Bld (w.setCell ⟨b, 0, none⟩ (.pointer (some ⟨b, 0, none⟩))) B b s ∧ Below B w (w.setCell ⟨b, 0, none⟩ (.pointer (some ⟨b, 0, none⟩)))) := by
      refine ⟨⟨hB, .pointer (some ⟨b, 0, none⟩), v, heap_setCell_same w b 0 _ _ _ hX, .inr rfl, ?_, hne⟩, (Below.refl B w).setCell (p := ⟨b, 0, none⟩) hB _⟩
      exact World.ownsRow.kept hO (grown_setB w ⟨b, 0, none⟩ _) (.inr hne)
    have hsh := bld_shape hX
    clear hO hne hh hX
    go_enter Tryd.func68, Tryd.ntmps68
    go_wp2
    rw [Go.Lib.run_to_unsafe w ⟨b, 0, none⟩ Tryd.underlying76 Tryd.underlying102 hj (by rw [hjs]; decide) hsh (Nat.zero_lt_succ 1)]
    simp only [Result.andThen]
    rw [Oper.upon_value]
    go_wp2
    rw [run_callFunc_extern Tryd.func76 (by kernel_rfl) (by kernel_rfl) (by kernel_rfl) (e := Extern.AbiNoEscape.same) (by kernel_rfl)]
    rw [Go.Lib.run_noEscape]
    simp only [Result.andThen]
    rw [Oper.upon_value]
    go_wp2
    rw [Go.Lib.run_from_unsafe w ⟨b, 0, none⟩ Tryd.underlying102 Tryd.underlying76 hj hsh liesBld]
    simp only [Result.andThen]
    rw [Oper.upon_value]
    go_wp2
    go_end0
    exact ⟨rfl, unhide HF⟩
  · have HF := hide hh
    clear hO hne hh hX
    go_enter Tryd.func68, Tryd.ntmps68
    go_wp2
    rw [Go.Lib.run_neq_ptr_same w _ Tryd.underlying76 hj]
    go_wp2
    go_end0
    exact ⟨rfl, unhide HF, Below.refl B _⟩

set_option maxHeartbeats 1000000 in
set_option maxRecDepth 100000 in
theorem WriteString_any (B b : Nat) (s u : ByteArray) (w : World) (h : Bld w B b s) (hB : B ≤ w.heap.size) (hz : s.size + u.size ≤ 4194304) :
    Calls Tryd.prog 61 #[.pointer (some ⟨b, 0, none⟩), .string u] w fun e w' => e = .returned (.tuple #[.int .i64 u.size, .nilIface]) ∧ Bld w' B b (s ++ u) ∧ Below B w w' := by
  have HC := hide (copyCheck_any B b s w h)
  have hus : u.size ≤ 4194304 := by omega
  clear h
  go_enter Tryd.func61, Tryd.ntmps61
  go_wp2_with fail
  refine (unhide HC).mono ?_
  rintro e w1 ⟨rfl, h1, hb1⟩
  have hB1 : B ≤ w1.heap.size := Nat.le_trans hB hb1.size
  have hlt := h1.lt
  obtain ⟨hBb, p, v, hX, hp, hO, hne⟩ := h1
  obtain ⟨v', w2, hr, hO2, hg2⟩ := app_str w1 B v (bytesL s) u hO hB1 (by rw [bytesL_length]; omega)
  have hX2 := (hg2.block b hlt (fun e => hne e.symm)).trans hX
  have hne2 : v'.ownBlock ≠ some b := fun e => by
    rcases hO2.2 with ⟨e1, _⟩ | ⟨g, cap, cur, e1, _, hg, _⟩
    · rw [e1] at e; cases e
    · rw [e1] at e
      have e' : g = b := by simpa [Value.ownBlock] using e
      rw [e', hX2] at hg
      simp only [Option.some.injEq, Obj.cells.injEq] at hg
      exact absurd hg.2.1 (by decide)
  obtain ⟨ao, cp, rfl, _⟩ := hO2.shape
  obtain ⟨c0, c1, f0, f1⟩ := two_b hX
  obtain ⟨d0, d1, e0, e1⟩ := two_b hX2
  have HF : Hid (Bld (w2.setCell ⟨b, 1, none⟩ (.slice ao ((bytesL s).length + (bytesL u).length) cp)) B b (s ++ u) ∧ Below B w (w2.setCell ⟨b, 1, none⟩ (.slice ao ((bytesL s).length + (bytesL u).length) cp))) := by
    rw [← List.length_append]
    refine ⟨⟨hBb, p, .slice ao (bytesL s ++ bytesL u).length cp, heap_setCell_same w2 b 1 _ _ _ hX2, hp, ?_, hne2⟩, (hb1.grown hg2 hB1 (fun k e => (World.ownsRow.lt hO k e).1)).setCell (p := ⟨b, 1, none⟩) hBb _⟩
    have e : bytesL (s ++ u) = bytesL s ++ bytesL u := by simp [bytesL, ByteArray.data_append]
    rw [e]
    exact World.ownsRow.kept hO2 (grown_setB w2 ⟨b, 1, none⟩ _) (.inr hne2)
  clear hO hne hO2 hg2 hne2 hX hX2 HC hb1
  go_wp2
  exact bodyPost_ret (v := .tuple #[.int .i64 u.size, .nilIface]) (by simp [results, Tryd.results61, go_sem]) rfl ⟨rfl, unhide HF⟩
end Go.Proofs.YtjjpmlcaapedhaaDoor
