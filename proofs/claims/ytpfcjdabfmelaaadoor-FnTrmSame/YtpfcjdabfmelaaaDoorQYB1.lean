/- Numbers in bytes: appendHigh, appendNumber of the program, l6Put of the specification. -/
import Derived.Test.YtpfcjdabfmelaaaDoorQYW1
import Derived.OwnWalk
import Derived.Deep.AppendLies
namespace Go.Proofs.YtpfcjdabfmelaaaDoor
open Go.RowKit
set_option linter.unusedVariables false
set_option linter.unusedSimpArgs false
attribute [-go_sem] Go.Builtin.append_

/-- From v in w to v' in w': only v's own block has been written, and v' lies there or in new memory. -/
def Grew (w : World) (v : Value) (w' : World) (v' : Value) : Prop := w.grownBy w' v.ownBlock ∧ ∀ k, v'.ownBlock = some k → v.ownBlock = some k ∨ w.heap.size ≤ k
theorem Grew.refl (w : World) (v : Value) : Grew w v w v := ⟨grown_refl _ _, fun k h => .inl h⟩
theorem Grew.trans {w w1 w2 : World} {v v1 v2 : Value} (h : Grew w v w1 v1) (k : Grew w1 v1 w2 v2) : Grew w v w2 v2 := by
  refine ⟨⟨k.1.os.trans h.1.os, k.1.tape.trans h.1.tape, k.1.output.trans h.1.output, Nat.le_trans h.1.size k.1.size, fun i hi hn => ?_⟩, fun j hj => ?_⟩
  · refine (k.1.block i (Nat.lt_of_lt_of_le hi h.1.size) (fun e => ?_)).trans (h.1.block i hi hn)
    rcases h.2 i e.symm with h' | h'
    · exact hn h'.symm
    · omega
  · rcases k.2 j hj with h' | h'
    · exact h.2 j h'
    · exact .inr (Nat.le_trans h.1.size h')
theorem Grew.below {w w' : World} {v v' : Value} {base e size n : Nat} {xs : List Value} (h : Grew w v w' v') (ho : w.ownsRow base e size v n xs) (hb : base ≤ w.heap.size) : Below base w w' :=
  ((Below.refl _ w).mono hb |>.grown h.1 hb (fun k e => (ho.lt k e).1))
/-- A cell of another block than v's own is as it was. -/
theorem Grew.cell {w w' : World} {v v' : Value} (h : Grew w v w' v') {a : Addr} (hl : a.block < w.heap.size) (hn : v.ownBlock ≠ some a.block) : w'.cell? a = w.cell? a :=
  World.cell?_of_block (h.1.block a.block hl (fun e => hn e.symm))

/-- A byte of a number. -/
def hiB (n : Int) (k : Nat) : Int := (n / (2 : Int) ^ (8 * k)) % 256
def highs (n : Int) (s : Nat) : List Int := (List.range s).map fun j => hiB n (s - 1 - j)
theorem highs_length (n : Int) (s : Nat) : (highs n s).length = s := by simp [highs]
theorem highs_step {n : Int} {s j : Nat} (h : j < s) : (highs n s).take (j + 1) = (highs n s).take j ++ [hiB n (s - 1 - j)] := by
  rw [List.take_succ_eq_append_getElem (by simpa [highs] using h)]
  simp [highs]
theorem hiB_in (n : Int) (k : Nat) : 0 ≤ hiB n k ∧ hiB n k ≤ 255 := by
  unfold hiB
  have h1 := Int.emod_nonneg (n / (2 : Int) ^ (8 * k)) (show (256 : Int) ≠ 0 by omega)
  have h2 := Int.emod_lt_of_pos (n / (2 : Int) ^ (8 * k)) (show (0 : Int) < 256 by omega)
  omega
theorem highs_by (n : Int) (s : Nat) : ByL (highs n s) := fun x hx => by
  obtain ⟨j, _, rfl⟩ := List.mem_map.1 hx
  exact hiB_in n _

/-- One byte appended. -/
theorem app_byte {w1 : World} {v' : Value} {z : List Int} {x : Int} {base : Nat}
    (hown' : w1.ownsRow base 5 1 v' (z.length + 1) (bys z ++ [.int .u8 x])) : OwnY w1 base v' (z ++ [x]) := by
  unfold OwnY
  rw [show (z ++ [x]).length = z.length + 1 by simp, bys_app]
  exact hown'

/-- The run of an append of one new byte. -/
theorem app_one (w : World) (base : Nat) (v : Value) (z : List Int) (x : Int) (hO : OwnY w base v z) (hb : base ≤ w.heap.size) (hz : z.length ≤ 4194304) :
    ∃ v' w', (Builtin.append_ #[22, 22] 22 #[v, .slice (some ⟨w.heap.size, 0, none⟩) 1 1]).run Tryd.prog (w.alloc (.cells #[.int .u8 x] 5)) = .ok v' w' ∧ OwnY w' base v' (z ++ [x]) ∧ Grew w v w' v' := by
  obtain ⟨i0, hi, hz0, hz1, hz2⟩ := info_parts Tryd.infoByte
  obtain ⟨g, cap, w1, hr, ho, hg, hat, _⟩ := run_append_lies (P := Tryd.prog) (w.alloc (.cells #[.int .u8 x] 5)) 22 22 base 5 i0 _ 1 1 Tryd.underlying22 hi hz0 hz1 hz2 rfl (by decide) v z.length _ (World.ownsRow.alloc hO _) ⟨w.heap.size, 0, none⟩ 1 1 [.int .u8 x] rfl (cell_one_new _ _ _) (by simp [Value.oneCell']) (by omega) (by unfold maxLen; omega) (by omega) (by simp; omega) _ rfl
  refine ⟨_, _, hr, app_byte ho, ⟨?_, ?_⟩⟩
  · exact grown_trans (grown_below (cell_below _ _)) hg
  · intro k hk
    have e : g = k := by simpa [Value.ownBlock] using hk
    subst e
    rcases hat with h | h
    · exact .inl h
    · right; rw [h]; simp

theorem hiB0 (n : Int) : hiB n 0 = n % 256 := by simp [hiB]
theorem hiB1 (n : Int) : hiB n 1 = n / 256 % 256 := by simp [hiB]
theorem hiB2 (n : Int) : hiB n 2 = n / 65536 % 256 := by simp [hiB]

set_option maxRecDepth 100000 in
set_option maxHeartbeats 2000000 in
theorem appendHigh_any (base : Nat) (v : Value) (z : List Int) (n : Int) (s : Nat) (w : World) (hO : OwnY w base v z) (hb : base ≤ w.heap.size) (hz : z.length ≤ 2097152) (hs : s ≤ 3) (h0 : 0 ≤ n) (h1 : n ≤ 1000000000) :
    Calls Tryd.prog 40 #[v, .int .i64 n, .int .i64 s] w fun e w' => ∃ v', e = .returned v' ∧ OwnY w' base v' (z ++ highs n s) ∧ Grew w v w' v' := by
  go_enter Tryd.func40, Tryd.ntmps40
  go_wp2
  go_loopw [0, 7] (fun o i wr => ∃ (k j : Nat), j + k = s ∧ i = .int .i64 ((k : Int) - 1) ∧ OwnY wr base o (z ++ (highs n s).take j) ∧ Grew w v wr o) (fun _ i _ => (intOf i + 1).toNat)
  case atStart => exact ⟨s, 0, by omega, rfl, by simpa using hO, Grew.refl _ _⟩
  case round =>
    obtain ⟨k, j, hj, rfl, hown, hG⟩ := hrel
    by_cases hlt : 1 ≤ k
    · have hwb : base ≤ wr.heap.size := Nat.le_trans hb hG.1.size
      obtain ⟨v', w', hr, ho', hg'⟩ := app_one wr base u0 (z ++ (highs n s).take j) (hiB n (s - 1 - j)) hown hwb (by simp [highs_length]; omega)
      have HF : Hid (OwnY w' base v' (z ++ (highs n s).take (j + 1)) ∧ Grew w v w' v') := ⟨by rw [highs_step (by omega), ← List.append_assoc]; exact ho', hG.trans hg'⟩
      clear ho' hg' hown hG hO
      rcases (show k = 1 ∨ k = 2 ∨ k = 3 by omega) with rfl | rfl | rfl
      · rw [show s - 1 - j = 0 by omega, hiB0] at hr
        go_wp2
        go_roundw
        case rel => exact ⟨0, j + 1, by omega, by go_num, (unhide HF).1, (unhide HF).2⟩
        case measure => simp [intOf]
      · rw [show s - 1 - j = 1 by omega, hiB1] at hr
        go_wp2
        go_roundw
        case rel => exact ⟨1, j + 1, by omega, by go_num, (unhide HF).1, (unhide HF).2⟩
        case measure => simp [intOf]
      · rw [show s - 1 - j = 2 by omega, hiB2] at hr
        go_wp2
        go_roundw
        case rel => exact ⟨2, j + 1, by omega, by go_num, (unhide HF).1, (unhide HF).2⟩
        case measure => simp [intOf]
    · have hk : k = 0 := by omega
      subst hk
      go_wp2
      go_ret
      have e : j = s := by omega
      subst e
      rw [List.take_of_length_le (by simp [highs])] at hown
      exact ⟨_, rfl, hown, hG⟩
end Go.Proofs.YtpfcjdabfmelaaaDoor
