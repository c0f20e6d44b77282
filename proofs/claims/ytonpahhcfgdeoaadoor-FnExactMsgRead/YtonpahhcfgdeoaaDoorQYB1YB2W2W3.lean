import Derived.Test.YtonpahhcfgdeoaaDoorQOpenOpen2YMYW1
import Derived.OwnWalk
import Derived.Deep.AppendLies
import Derived.Deep.RegionHeld3
import Derived.Test.YtonpahhcfgdeoaaDoorQPlainW1MemMem2Mem3W9
/- Numbers in bytes: appendHigh, appendNumber of the program, l6Put of the specification. -/
namespace Go.Proofs.YtonpahhcfgdeoaaDoor
open Go.RowKit
set_option linter.unusedVariables false
set_option linter.unusedSimpArgs false
attribute [-go_sem] Go.Builtin.append_

/-- From v in w to v' in w': only v's own block has been written, and v' lies there or in new memory. -/
def Grew (w : World) (v : Value) (w' : World) (v' : Value) : Prop := w.grownBy w' v.ownBlock ∧ ∀ k, v'.ownBlock = some k → v.ownBlock = some k ∨ w.heap.size ≤ k
theorem Grew.refl (w : World) (v : Value) : Grew w v w v := ⟨grown_refl _ _, fun k h => .inl h⟩
theorem Grew.trans {w w1 w2 : World} {v v1 v2 : Value} (h : Grew w v w1 v1) (k : Grew w1 v1 w2 v2) : Grew w v w2 v2 := by
  refine ⟨⟨k.1.os.trans h.1.os, k.1.tape.trans h.1.tape, k.1.output.trans h.1.output, Nat.le_trans h.1.size k.1.size, fun i hi hn => ?_⟩, fun j hj => ?_⟩
  · refine (k.1.block i (Nat.lt_of_lt_of_le hi h.1.size) (fun e => ?_)).trans (h.1.block i hi hn)
    rcases h.2 i e.symm with h' | h'
    · exact hn h'.symm
    · omega
  · rcases k.2 j hj with h' | h'
    · exact h.2 j h'
    · exact .inr (Nat.le_trans h.1.size h')
theorem Grew.below {w w' : World} {v v' : Value} {base e size n : Nat} {xs : List Value} (h : Grew w v w' v') (ho : w.ownsRow base e size v n xs) (hb : base ≤ w.heap.size) : Below base w w' :=
  ((Below.refl _ w).mono hb |>.grown h.1 hb (fun k e => (ho.lt k e).1))
/-- A cell of another block than v's own is as it was. -/
theorem Grew.cell {w w' : World} {v v' : Value} (h : Grew w v w' v') {a : Addr} (hl : a.block < w.heap.size) (hn : v.ownBlock ≠ some a.block) : w'.cell? a = w.cell? a :=
  World.cell?_of_block (h.1.block a.block hl (fun e => hn e.symm))

/-- A byte of a number. -/
def hiB (n : Int) (k : Nat) : Int := (n / (2 : Int) ^ (8 * k)) % 256
def highs (n : Int) (s : Nat) : List Int := (List.range s).map fun j => hiB n (s - 1 - j)
theorem highs_length (n : Int) (s : Nat) : (highs n s).length = s := by simp [highs]
theorem highs_step {n : Int} {s j : Nat} (h : j < s) : (highs n s).take (j + 1) = (highs n s).take j ++ [hiB n (s - 1 - j)] := by
  rw [List.take_succ_eq_append_getElem (by simpa [highs] using h)]
  simp [highs]
theorem hiB_in (n : Int) (k : Nat) : 0 ≤ hiB n k ∧ hiB n k ≤ 255 := by
  unfold hiB
  have h1 := Int.emod_nonneg (n / (2 : Int) ^ (8 * k)) (show (256 : Int) ≠ 0 by omega)
  have h2 := Int.emod_lt_of_pos (n / (2 : Int) ^ (8 * k)) (show (0 : Int) < 256 by omega)
  omega
theorem highs_by (n : Int) (s : Nat) : ByL (highs n s) := fun x hx => by
  obtain ⟨j, _, rfl⟩ := List.mem_map.1 hx
  exact hiB_in n _

/-- One byte appended. -/
theorem app_byte {w1 : World} {v' : Value} {z : List Int} {x : Int} {base : Nat}
    (hown' : w1.ownsRow base 5 1 v' (z.length + 1) (bys z ++ [.int .u8 x])) : OwnY w1 base v' (z ++ [x]) := by
  unfold OwnY
  rw [show (z ++ [x]).length = z.length + 1 by simp, bys_app]
  exact hown'

/-- The run of an append of one new byte. -/
theorem app_one (w : World) (base : Nat) (v : Value) (z : List Int) (x : Int) (hO : OwnY w base v z) (hb : base ≤ w.heap.size) (hz : z.length ≤ 4194304) :
    ∃ v' w', (Builtin.append_ #[22, 22] 22 #[v, .slice (some ⟨w.heap.size, 0, none⟩) 1 1]).run Tryd.prog (w.alloc (.cells #[.int .u8 x] 5)) = .ok v' w' ∧ OwnY w' base v' (z ++ [x]) ∧ Grew w v w' v' := by
  obtain ⟨i0, hi, hz0, hz1, hz2⟩ := info_parts Tryd.infoByte
  obtain ⟨g, cap, w1, hr, ho, hg, hat, _⟩ := run_append_lies (P := Tryd.prog) (w.alloc (.cells #[.int .u8 x] 5)) 22 22 base 5 i0 _ 1 1 Tryd.underlying22 hi hz0 hz1 hz2 rfl (by decide) v z.length _ (World.ownsRow.alloc hO _) ⟨w.heap.size, 0, none⟩ 1 1 [.int .u8 x] rfl (cell_one_new _ _ _) (by simp [Value.oneCell']) (by omega) (by unfold maxLen; omega) (by omega) (by simp; omega) _ rfl
  refine ⟨_, _, hr, app_byte ho, ⟨?_, ?_⟩⟩
  · exact grown_trans (grown_below (cell_below _ _)) hg
  · intro k hk
    have e : g = k := by simpa [Value.ownBlock] using hk
    subst e
    rcases hat with h | h
    · exact .inl h
    · right; rw [h]; simp

theorem hiB0 (n : Int) : hiB n 0 = n % 256 := by simp [hiB]
theorem hiB1 (n : Int) : hiB n 1 = n / 256 % 256 := by simp [hiB]
theorem hiB2 (n : Int) : hiB n 2 = n / 65536 % 256 := by simp [hiB]

end Go.Proofs.YtonpahhcfgdeoaaDoor

/- appendNumber of the program, l6Put of the specification. -/
namespace Go.Proofs.YtonpahhcfgdeoaaDoor
open Go.RowKit
set_option linter.unusedVariables false
set_option linter.unusedSimpArgs false
attribute [-go_sem] Go.Builtin.append_

/-- The run of an append of bytes that lie somewhere. -/
theorem app_row (w : World) (base : Nat) (v : Value) (z y : List Int) (b off cap : Nat) (hO : OwnY w base v z) (hb : base ≤ w.heap.size) (hz : z.length + y.length ≤ 4194304) (hA : AtY w b off y) (h0 : 0 < y.length) :
    ∃ v' w', (Builtin.append_ #[22, 22] 22 #[v, .slice (some ⟨b, off, none⟩) y.length cap]).run Tryd.prog w = .ok v' w' ∧ OwnY w' base v' (z ++ y) ∧ Grew w v w' v' := by
  obtain ⟨i0, hi, hz0, hz1, hz2⟩ := info_parts Tryd.infoByte
  obtain ⟨g, c, w1, hr, ho, hg, hat, _⟩ := run_append_lies (P := Tryd.prog) w 22 22 base 5 i0 _ 1 1 Tryd.underlying22 hi hz0 hz1 hz2 rfl (by decide) v z.length _ hO ⟨b, off, none⟩ y.length cap (bys y) (by simp [bys]) (fun j u hj => by
    have hjl : j < y.length := by
      have := (List.getElem?_eq_some_iff.1 hj).1
      simpa [bys] using this
    rw [bys_get y j hjl] at hj
    have e : (⟨b, off, none⟩ : Addr).add j = ⟨b, off + j, none⟩ := by unfold Addr.add; split <;> simp_all
    rw [e, hA j hjl]
    exact hj) (bys_one y) h0 (by unfold maxLen; omega) (by omega) hb _ rfl
  refine ⟨_, _, hr, ?_, hg, ?_⟩
  · unfold OwnY
    rw [List.length_append, bys_app]
    exact ho
  · intro k hk
    have e : g = k := by simpa [Value.ownBlock] using hk
    subst e
    rcases hat with h | h
    · exact .inl h
    · right; omega

theorem atY_new (w : World) (y : List Int) : AtY (w.alloc (.cells (bys y).toArray 5)) w.heap.size 0 y := fun i hi => by
  have hb := heap_alloc_new w (.cells (bys y).toArray 5)
  simp only [World.cell?, hb]
  simpa using bys_get y i hi

/-- The run of an append of new bytes. -/
theorem app_new (w : World) (base : Nat) (v : Value) (z y : List Int) (cs : Array Value) (hcs : cs = (bys y).toArray) (n : Nat) (hn : n = y.length) (hO : OwnY w base v z) (hb : base ≤ w.heap.size) (hz : z.length + y.length ≤ 4194304) (h0 : 0 < y.length) :
    ∃ v' w', (Builtin.append_ #[22, 22] 22 #[v, .slice (some ⟨w.heap.size, 0, none⟩) n n]).run Tryd.prog (w.alloc (.cells cs 5)) = .ok v' w' ∧ OwnY w' base v' (z ++ y) ∧ Grew w v w' v' := by
  subst hcs hn
  obtain ⟨v', w', hr, ho, hg⟩ := app_row (w.alloc (.cells (bys y).toArray 5)) base v z y w.heap.size 0 y.length (hO.below (cell_below _ _)) (by simp; omega) hz (atY_new w y) h0
  refine ⟨v', w', hr, ho, grown_trans (grown_below (cell_below _ _)) hg.1, fun k hk => ?_⟩
  rcases hg.2 k hk with h | h
  · exact .inl h
  · right; simp at h; omega

def num3 (n : Int) : List Int := highs (n + 100000) 3
theorem num3_eq (n : Int) : num3 n = [(n + 100000) / 65536 % 256, (n + 100000) / 256 % 256, (n + 100000) % 256] := by
  simp [num3, highs, List.range_succ, hiB]

theorem made_noneY (w : World) (base : Nat) (hb : base ≤ w.heap.size) : OwnY (w.alloc (.cells #[] 5)) base (.slice (some ⟨w.heap.size, 0, none⟩) 0 0) [] := World.ownsRow_made w #[] 0 hb (by simp [maxLen]) rfl

end Go.Proofs.YtonpahhcfgdeoaaDoor

/- The walk of the program's TrmOk. -/
namespace Go.Proofs.YtonpahhcfgdeoaaDoor
open Go.RowKit
set_option linter.unusedVariables false
set_option linter.unusedSimpArgs false

theorem goes_step {t : List C} {k : Nat} (h : k < t.length) (x : Int) (hx : x ≠ 0) (ho : okC t[k] = true) : goes x (t.drop k) = goes (x + (ari t[k] - 1)) (t.drop (k + 1)) := by
  rw [List.drop_eq_getElem_cons h]; simp [goes, hx, ho]
theorem goes_zero {t : List C} {k : Nat} (h : k < t.length) : goes 0 (t.drop k) = false := by
  rw [List.drop_eq_getElem_cons h]; simp [goes]
theorem goes_bad {t : List C} {k : Nat} (h : k < t.length) (x : Int) (ho : okC t[k] = false) : goes x (t.drop k) = false := by
  rw [List.drop_eq_getElem_cons h]; simp [goes, ho]
theorem goes_end {t : List C} {k : Nat} (h : ¬ k < t.length) (x : Int) : goes x (t.drop k) = decide (x = 0) := by
  rw [List.drop_eq_nil_iff.2 (by omega)]; rfl

theorem trm_of {t : List C} (h : t.length ≤ 40) {b : Bool} (hg : goes 1 t = b) : trm t = b := by simp [trm, h, hg]
theorem trm_long {t : List C} (h : ¬ t.length ≤ 40) : trm t = false := by simp [trm, h]

set_option maxHeartbeats 1000000 in
theorem TrmOk_some (b off cap : Nat) (t : List C) (w : World) (hm : t.length ≤ maxLen) (hA : At w b off t) (hF : Fit t) :
    Calls Tryd.prog 54 #[.slice (some ⟨b, off, none⟩) t.length cap] w fun e w' => e = .returned (.bool (trm t)) ∧ Below w.heap.size w w' := by
  unfold maxLen at hm
  by_cases h40 : t.length ≤ 40
  · go_enter Tryd.func54, Tryd.ntmps54
    go_wp2
    go_loopw [3, 11] (fun m i wr => ∃ (k : Nat) (x : Int), k ≤ t.length ∧ i = .int .i64 k ∧ m = .int .i64 x ∧ 0 ≤ x ∧ x ≤ 1 + 3 * k ∧ goes 1 t = goes x (t.drop k) ∧ Below w.heap.size w wr) (fun _ i _ => t.length - (intOf i).toNat)
    case atStart => exact ⟨0, 1, Nat.zero_le _, rfl, rfl, by omega, by omega, rfl, Below.refl _ _⟩
    case round =>
      obtain ⟨k, x, hk, rfl, rfl, hx0, hx1, hg, hB⟩ := hrel
      have H : Hid (goes 1 t = goes x (t.drop k)) := hg
      clear hg
      by_cases hlt : k < t.length
      · obtain ⟨c0, c1, c2⟩ := (hA.below hB) k hlt
        have hs := hF.get k hlt
        obtain ⟨c, hc⟩ : ∃ c, c = t[k] := ⟨_, rfl⟩
        rw [← hc] at c0 c1 c2 hs
        have HC : Hid (c = t[k]) := hc
        clear hc
        by_cases hx : x = 0
        · have hxb : (x == 0) = true := by simpa using hx
          go_wp2
          go_ret
          refine ⟨ret_bool ?_, hB.alloc hB.size _⟩
          rw [trm_of h40 H.out, hx, goes_zero hlt]
        · have hxb : (x == 0) = false := by simpa using hx
          cases ho : okC c with
          | false =>
            go_wp2_with fail
            refine (cellOk_any c _ hs).mono ?_
            rintro e w1 ⟨rfl, hb1⟩
            go_wp2
            go_ret
            refine ⟨ret_bool ?_, (hB.alloc hB.size _).trans (hb1.mono (by have := hB.size; simp; omega))⟩
            rw [trm_of h40 H.out, goes_bad hlt x (by rw [← HC.out]; exact ho)]
          | true =>
            have hari := ari_ok ho
            go_wp2_with fail
            refine (cellOk_any c _ hs).mono ?_
            rintro e w1 ⟨rfl, hb1⟩
            have hq0 := hb1.cell (p := ⟨wr.heap.size, 0, none⟩) (by simp)
            have hq1 := hb1.cell (p := ⟨wr.heap.size, 1, none⟩) (by simp)
            have hq2 := hb1.cell (p := ⟨wr.heap.size, 2, none⟩) (by simp)
            go_wp2_with fail
            refine (cellArity_any c _).mono ?_
            rintro e w2 ⟨rfl, hb2⟩
            clear hq0 hq1 hq2 c0 c1 c2
            go_wp2
            go_roundw
            case rel =>
              refine ⟨k + 1, x + (ari c - 1), by omega, by go_num, by go_num, by omega, by omega, ?_, ((hB.alloc hB.size _).trans (hb1.mono (by have := hB.size; simp; omega))).trans (hb2.mono (by have := hB.size; have := hb1.size; simp at this; omega))⟩
              rw [H.out, goes_step hlt x hx (by rw [← HC.out]; exact ho), HC.out]
            case measure => simp [intOf]; omega
      · go_wp2
        go_ret
        refine ⟨ret_bool ?_, hB⟩
        rw [trm_of h40 H.out, goes_end hlt]
        rfl
  · go_enter Tryd.func54, Tryd.ntmps54
    go_wp2
    go_ret
    exact ⟨ret_bool (trm_long h40).symm, Below.refl _ _⟩

set_option maxHeartbeats 400000 in
theorem TrmOk_none (ao : Option Addr) (cap : Nat) (w : World) :
    Calls Tryd.prog 54 #[.slice ao 0 cap] w fun e w' => e = .returned (.bool false) ∧ Below w.heap.size w w' := by
  go_enter Tryd.func54, Tryd.ntmps54
  go_wp2
  refine wp_loop_rounds 1 ?_
  rw [rounds_succ]
  go_wp2
  go_ret
  exact ⟨rfl, Below.refl _ _⟩

/-- The program's TrmOk, of whatever places: whether they are a term. -/
theorem TrmOk_any (ao : Option Addr) (cap : Nat) (t : List C) (w : World) (hm : t.length ≤ maxLen) (hA : Row w ao t) (hF : Fit t) :
    Calls Tryd.prog 54 #[.slice ao t.length cap] w fun e w' => e = .returned (.bool (trm t)) ∧ Below w.heap.size w w' := by
  rcases hA with rfl | ⟨b, off, rfl, hA⟩
  · rw [trm_nil]; exact TrmOk_none ao cap w
  · exact TrmOk_some b off cap t w hm hA hF
end Go.Proofs.YtonpahhcfgdeoaaDoor

/- The walks of the model's look at places: l1In, l1Name, l1Cell, l1End, TrmOk. -/
namespace Go.Proofs.YtonpahhcfgdeoaaDoor
open Go.RowKit
set_option linter.unusedVariables false
set_option linter.unusedSimpArgs false

set_option maxHeartbeats 400000 in
theorem l1In_any (n lo hi : Int) (w : World) :
    Calls Tryd.prog 30 #[.int .i64 n, .int .i64 lo, .int .i64 hi] w fun e w' => e = .returned (.bool (decide (lo ≤ n ∧ n ≤ hi))) ∧ w' = w := by
  by_cases h1 : lo ≤ n
  · go_enter Tryd.func30, Tryd.ntmps30
    go_wp2
    go_ret
    exact ⟨ret_bool (by simp [h1]), rfl⟩
  · go_enter Tryd.func30, Tryd.ntmps30
    go_wp2
    go_ret
    exact ⟨ret_bool (by simp; omega), rfl⟩

theorem letters_no {s : ByteArray} {k : Nat} (h : k < s.size) (hb : small s[k].toNat = false) : letters s = false := by
  unfold letters
  rw [List.all_eq_false]
  exact ⟨s[k], by rw [show s[k] = s.data.toList[k]'(by simpa using h) from rfl]; exact List.getElem_mem _, by simp [hb]⟩

theorem letters_yes {s : ByteArray} (h : ∀ j : Nat, (h : j < s.size) → small s[j].toNat = true) : letters s = true := by
  unfold letters
  rw [List.all_eq_true]
  intro c hc
  obtain ⟨j, hj, rfl⟩ := List.mem_iff_getElem.1 hc
  exact h j (by simpa using hj)

set_option maxHeartbeats 1000000 in
theorem l1Name_any (s : ByteArray) (w : World) (hs : s.size ≤ maxLen) :
    Calls Tryd.prog 61 #[.string s] w fun e w' => e = .returned (.bool (nameB s)) ∧ w' = w := by
  unfold maxLen at hs
  by_cases h1 : s.size = 0
  · have hz : ((s.size : Int) == 0) = true := by simp only [beq_iff_eq]; omega
    go_enter Tryd.func61, Tryd.ntmps61
    go_wp2
    go_ret
    exact ⟨ret_bool (by unfold nameB; rw [h1]; rfl), rfl⟩
  · have hz : ((s.size : Int) == 0) = false := by rw [beq_eq_false_iff_ne]; omega
    by_cases h2 : s.size ≤ 8
    · have hnb : nameB s = letters s := by unfold nameB; simp only [h2, decide_true, Bool.and_true, Bool.true_and, show 1 ≤ s.size by omega]
      have HN : Hid (nameB s = letters s) := hnb
      clear hnb
      go_enter Tryd.func61, Tryd.ntmps61
      go_wp2
      go_loop [3] (fun i => ∃ k : Nat, k ≤ s.size ∧ i = .int .i64 k ∧ ∀ j : Nat, (h : j < s.size) → j < k → small s[j].toNat = true) (fun i => s.size - (intOf i).toNat)
      case atStart => exact ⟨0, Nat.zero_le _, rfl, fun j _ h => absurd h (Nat.not_lt_zero _)⟩
      case round =>
        obtain ⟨k, hk, rfl, hall⟩ := hrel
        have H : Hid (∀ j : Nat, (h : j < s.size) → j < k → small s[j].toNat = true) := hall
        clear hall
        by_cases hlt : k < s.size
        · by_cases ha : 97 ≤ (s[k].toNat : Int)
          · by_cases hz : (s[k].toNat : Int) ≤ 122
            · go_wp2
              go_round
              case rel =>
                refine ⟨k + 1, by omega, by go_num, fun j hj hjk => ?_⟩
                by_cases e : j = k
                · subst e; exact small_yes ha hz
                · exact H.out j hj (by omega)
              case measure => simp [intOf]; omega
            · go_wp2
              go_ret
              exact ⟨ret_bool (by rw [HN.out, letters_no hlt (small_no (.inr (by omega)))]), rfl⟩
          · go_wp2
            go_ret
            exact ⟨ret_bool (by rw [HN.out, letters_no hlt (small_no (.inl (by omega)))]), rfl⟩
        · go_wp2
          go_ret
          exact ⟨ret_bool (by rw [HN.out, letters_yes (fun j hj => H.out j hj (by omega))]), rfl⟩
    · go_enter Tryd.func61, Tryd.ntmps61
      go_wp2
      go_ret
      exact ⟨ret_bool (by simp [nameB, h2]), rfl⟩

set_option maxHeartbeats 1000000 in
theorem l1Cell_any (c : C) (w : World) (hs : c.s.size ≤ maxLen) :
    Calls Tryd.prog 45 #[.agg #[.int .i64 c.k, .int .i64 c.n, .string c.s]] w fun e w' => e = .returned (.bool (okC c)) ∧ Below w.heap.size w w' := by
  by_cases h1 : c.k = 1
  · have hb : (c.k == 1) = true := by simpa using h1
    have H : Hid (okC c = true ↔ 0 ≤ c.n ∧ c.n ≤ 99999 ∧ c.s.size = 0) := okC1 h1
    clear h1
    by_cases hn : 0 ≤ c.n ∧ c.n ≤ 99999
    · have hd : decide (0 ≤ c.n ∧ c.n ≤ 99999) = true := by simpa using hn
      by_cases he : 1 ≤ c.s.size
      · have hz := empty_no he
        go_enter Tryd.func45, Tryd.ntmps45
        go_wp2_with (go_at_call 30; refine (l1In_any _ _ _ _).mono ?_; rw [hd]; rintro e w' ⟨rfl, rfl⟩)
        go_ret
        exact ⟨ret_bool (iff_no H.out (by omega)), cell_below _ _⟩
      · have hz := empty_yes he
        go_enter Tryd.func45, Tryd.ntmps45
        go_wp2_with (go_at_call 30; refine (l1In_any _ _ _ _).mono ?_; rw [hd]; rintro e w' ⟨rfl, rfl⟩)
        go_ret
        exact ⟨ret_bool (H.out.2 (by omega)).symm, cell_below _ _⟩
    · have hd : decide (0 ≤ c.n ∧ c.n ≤ 99999) = false := by simpa using hn
      have HN : Hid (¬ (0 ≤ c.n ∧ c.n ≤ 99999)) := hn
      clear hn
      go_enter Tryd.func45, Tryd.ntmps45
      go_wp2_with (go_at_call 30; refine (l1In_any _ _ _ _).mono ?_; rw [hd]; rintro e w' ⟨rfl, rfl⟩)
      go_ret
      exact ⟨ret_bool (iff_no H.out (fun h => HN.out ⟨h.1, h.2.1⟩)), cell_below _ _⟩
  · have hb : (c.k == 1) = false := by simpa using h1
    by_cases h2 : c.k = 2
    · have hb2 : (c.k == 2) = true := by simpa using h2
      have H : Hid (okC c = true ↔ -9999 ≤ c.n ∧ c.n ≤ 9999 ∧ c.s.size = 0) := okC2 h2
      clear h1 h2
      by_cases hn : -9999 ≤ c.n ∧ c.n ≤ 9999
      · have hd : decide (-9999 ≤ c.n ∧ c.n ≤ 9999) = true := by simpa using hn
        by_cases he : 1 ≤ c.s.size
        · have hz := empty_no he
          go_enter Tryd.func45, Tryd.ntmps45
          go_wp2_with (go_at_call 30; refine (l1In_any _ _ _ _).mono ?_; rw [hd]; rintro e w' ⟨rfl, rfl⟩)
          go_ret
          exact ⟨ret_bool (iff_no H.out (by omega)), cell_below _ _⟩
        · have hz := empty_yes he
          go_enter Tryd.func45, Tryd.ntmps45
          go_wp2_with (go_at_call 30; refine (l1In_any _ _ _ _).mono ?_; rw [hd]; rintro e w' ⟨rfl, rfl⟩)
          go_ret
          exact ⟨ret_bool (H.out.2 (by omega)).symm, cell_below _ _⟩
      · have hd : decide (-9999 ≤ c.n ∧ c.n ≤ 9999) = false := by simpa using hn
        have HN : Hid (¬ (-9999 ≤ c.n ∧ c.n ≤ 9999)) := hn
        clear hn
        go_enter Tryd.func45, Tryd.ntmps45
        go_wp2_with (go_at_call 30; refine (l1In_any _ _ _ _).mono ?_; rw [hd]; rintro e w' ⟨rfl, rfl⟩)
        go_ret
        exact ⟨ret_bool (iff_no H.out (fun h => HN.out ⟨h.1, h.2.1⟩)), cell_below _ _⟩
    · have hb2 : (c.k == 2) = false := by simpa using h2
      by_cases h3 : c.k = 3
      · have hb3 : (c.k == 3) = true := by simpa using h3
        have H : Hid (okC c = true ↔ 0 ≤ c.n ∧ c.n ≤ 3 ∧ nameB c.s = true) := okC3 h3
        clear h1 h2 h3
        by_cases hn : 0 ≤ c.n ∧ c.n ≤ 3
        · have hd : decide (0 ≤ c.n ∧ c.n ≤ 3) = true := by simpa using hn
          have HO : Hid (nameB c.s = okC c) := by show _ = _; rw [Bool.eq_iff_iff, H.out]; exact ⟨fun h => ⟨hn.1, hn.2, h⟩, fun h => h.2.2⟩
          go_enter Tryd.func45, Tryd.ntmps45
          go_wp2_with (first | (go_at_call 30; refine (l1In_any _ _ _ _).mono ?_; rw [hd]; rintro e w' ⟨rfl, rfl⟩) | (go_at_call 61; refine (l1Name_any _ _ hs).mono ?_; rintro e w' ⟨rfl, rfl⟩))
          go_ret
          exact ⟨ret_bool HO.out, cell_below _ _⟩
        · have hd : decide (0 ≤ c.n ∧ c.n ≤ 3) = false := by simpa using hn
          have HN : Hid (¬ (0 ≤ c.n ∧ c.n ≤ 3)) := hn
          clear hn
          go_enter Tryd.func45, Tryd.ntmps45
          go_wp2_with (go_at_call 30; refine (l1In_any _ _ _ _).mono ?_; rw [hd]; rintro e w' ⟨rfl, rfl⟩)
          go_ret
          exact ⟨ret_bool (iff_no H.out (fun h => HN.out ⟨h.1, h.2.1⟩)), cell_below _ _⟩
      · have hb3 : (c.k == 3) = false := by simpa using h3
        have H : Hid (okC c = false) := okC4 h1 h2 h3
        clear h1 h2 h3
        go_enter Tryd.func45, Tryd.ntmps45
        go_wp2
        go_ret
        exact ⟨ret_bool (by rw [H.out]), cell_below _ _⟩
end Go.Proofs.YtonpahhcfgdeoaaDoor
