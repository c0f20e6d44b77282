import Derived.Test.YtpfcjdabfmelaaaDoorQYB3TX1
import Derived.Test.YtpfcjdabfmelaaaDoorQW10W13
import Derived.Test.YtpfcjdabfmelaaaDoorQW9W11W12
import Derived.Test.YtpfcjdabfmelaaaDoorQYB1
import Derived.Test.YtpfcjdabfmelaaaDoorQTX7
import Derived.Test.YtpfcjdabfmelaaaDoorQW6
import Derived.Test.YtpfcjdabfmelaaaDoorQW5
/- The specification: decimals, words. -/
namespace Go.Proofs.YtpfcjdabfmelaaaDoor
open Go.RowKit
set_option linter.unusedVariables false
set_option linter.unusedSimpArgs false

end Go.Proofs.YtpfcjdabfmelaaaDoor

/- The specification: a term's text. -/
namespace Go.Proofs.YtpfcjdabfmelaaaDoor
open Go.RowKit
set_option linter.unusedVariables false
set_option linter.unusedSimpArgs false
attribute [-go_sem] Go.Builtin.append_

theorem closeB_nil (s : ByteArray) : closeB s ([] : List Int).reverse = (s, []) := rfl
theorem closeB_one (s : ByteArray) (z : List Int) : closeB s (z ++ [1]).reverse = closeB (s ++ rpB) z.reverse := by simp [closeB]
theorem closeB_more (s : ByteArray) (z : List Int) {n : Int} (h : n ≠ 1) : closeB s (z ++ [n]).reverse = (s ++ cmB, (z ++ [n - 1]).reverse) := by simp [closeB, h]

/-- The run of an append of one number. -/
theorem app_oneI (w : World) (base : Nat) (v : Value) (z : List Int) (x : Int) (hO : OwnI w base v z) (hb : base ≤ w.heap.size) (hl : z.length ≤ 1048576) :
    ∃ v' w', (Builtin.append_ #[48, 48] 48 #[v, .slice (some ⟨w.heap.size, 0, none⟩) 1 1]).run Tryd.prog (w.alloc (.cells #[.int .i64 x] 3)) = .ok v' w' ∧ OwnI w' base v' (z ++ [x]) ∧ Below base w w' := by
  obtain ⟨i0, hi, hz0, hz1, hz2⟩ := info_parts Tryd.infoInt
  obtain ⟨g, cap, w1, hr, ho, hg, hat, _⟩ := run_append_lies (P := Tryd.prog) (w.alloc (.cells #[.int .i64 x] 3)) 48 48 base 3 i0 _ 1 8 Tryd.underlying48 hi hz0 hz1 hz2 rfl (by decide) v z.length _ (World.ownsRow.alloc hO _) ⟨w.heap.size, 0, none⟩ 1 1 [.int .i64 x] rfl (cell_one_new _ _ _) (by intro u hu; simp at hu; subst hu; rfl) (by omega) (by unfold maxLen; omega) (by omega) (by simp; omega) _ rfl
  refine ⟨_, _, hr, ?_, ?_⟩
  · unfold OwnI
    rw [show (z ++ [x]).length = z.length + 1 by simp, show nums (z ++ [x]) = nums z ++ [.int .i64 x] by simp [nums]]
    exact ho
  · have h1 : Below base w (w.alloc (.cells #[.int .i64 x] 3)) := (cell_below w _).mono hb
    exact h1.grown hg (by simp; omega) (fun k e => (World.ownsRow.lt hO k e).1)
theorem ownI_take {w : World} {base cap : Nat} {ao : Option Addr} {z : List Int} {n : Int} (h : OwnI w base (.slice ao (z.length + 1) cap) (z ++ [n])) : OwnI w base (.slice ao z.length cap) z := by
  refine ⟨by simp [nums], ?_⟩
  rcases h.2 with ⟨e, hn⟩ | ⟨g, cap', cur, e, hb, hg, hc, hm, hs, ht⟩
  · simp at hn
  · simp only [Value.slice.injEq] at e
    obtain ⟨rfl, _, rfl⟩ := e
    refine .inr ⟨g, cap, cur, rfl, hb, hg, by simp at hc; omega, hm, hs, ?_⟩
    have : nums z = (nums (z ++ [n])).take (z.length * 1) := by simp [nums]
    rw [this, ← ht, List.take_take]
    congr 1
    simp
theorem ownI_top {w : World} {base cap : Nat} {ao : Option Addr} {z : List Int} {n : Int} (h : OwnI w base (.slice ao (z.length + 1) cap) (z ++ [n])) : ∃ g, ao = some ⟨g, 0, none⟩ ∧ base ≤ g ∧ w.cell? ⟨g, z.length, none⟩ = some (.int .i64 n) ∧ w.frozen? ⟨g, z.length, none⟩ = false ∧ z.length + 1 ≤ cap := by
  rcases h.2 with ⟨e, hn⟩ | ⟨g, cap', cur, e, hb, hg, hc, hm, hs, ht⟩
  · simp at hn
  · simp only [Value.slice.injEq] at e
    obtain ⟨rfl, _, rfl⟩ := e
    have hc2 : z.length + 1 ≤ cap := by simp at hc; omega
    have hx : cur[z.length]? = some (.int .i64 n) := by
      have h1 : (cur.toList.take ((z ++ [n]).length * 1))[z.length]? = some (.int .i64 n) := by rw [ht]; simp [nums]
      rw [List.getElem?_take] at h1
      simpa using h1
    refine ⟨g, rfl, hb, ?_, ?_, hc2⟩
    · simp only [World.cell?]; rw [hg]; simpa using hx
    · simp only [World.frozen?]; rw [hg]; simp
theorem ownI_set {w : World} {base cap g : Nat} {z : List Int} {n m : Int} (h : OwnI w base (.slice (some ⟨g, 0, none⟩) (z.length + 1) cap) (z ++ [n])) : OwnI (w.setCell ⟨g, z.length, none⟩ (.int .i64 m)) base (.slice (some ⟨g, 0, none⟩) (z.length + 1) cap) (z ++ [m]) := by
  have h' : w.ownsRow base 3 1 (.slice (some ⟨g, 0, none⟩) (z.length + 1) cap) (z.length + 1) (nums (z ++ [n])) := by
    have := h
    unfold OwnI at this
    rwa [show (z ++ [n]).length = z.length + 1 by simp] at this
  have := (World.ownsRow.stored h' z.length (.int .i64 m)).1
  unfold OwnI
  rw [show (z ++ [m]).length = z.length + 1 by simp]
  have e : (nums (z ++ [n])).set z.length (.int .i64 m) = nums (z ++ [m]) := by simp [nums, List.set_append]
  rw [e] at this
  exact this
def lenVx : Value → Nat
  | .slice _ n _ => n
  | _ => 0
theorem last_of {z : List Int} (h : 0 < z.length) : ∃ z' n, z = z' ++ [n] := by
  rcases List.eq_nil_or_concat z with rfl | ⟨z', n, rfl⟩
  · simp at h
  · exact ⟨z', n, by simp⟩

end Go.Proofs.YtpfcjdabfmelaaaDoor

/- The specification's TrmText at any places; the walk of FnExactTrmText. -/
namespace Go.Proofs.YtpfcjdabfmelaaaDoor
open Go.RowKit
set_option linter.unusedVariables false
set_option linter.unusedSimpArgs false

theorem tenB {w w' : World} (h : TenT w) (hb : Below w.heap.size w w') : TenT w' := h.below hb

end Go.Proofs.YtpfcjdabfmelaaaDoor
