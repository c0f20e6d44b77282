import Derived.Test.YtonpahhcfgdeoaaQYW1
import Derived.OwnWalk
import Derived.Deep.AppendLies
import Derived.Deep.RegionHeld3
import Derived.Test.YtonpahhcfgdeoaaQW2W3W4W6SB2
import Derived.Test.YtonpahhcfgdeoaaQW13SB1
import Derived.Test.YtonpahhcfgdeoaaQT3Plain2T4
import Derived.Lib.AppendStr
import Derived.BigQuiet
import Derived.Deep.RegionWith
/- Numbers in bytes: appendHigh, appendNumber of the program, l6Put of the specification. -/
namespace Go.Proofs.Ytonpahhcfgdeoaa
open Go.RowKit
set_option linter.unusedVariables false
set_option linter.unusedSimpArgs false
attribute [-go_sem] Go.Builtin.append_

/-- From v in w to v' in w': only v's own block has been written, and v' lies there or in new memory. -/
def Grew (w : World) (v : Value) (w' : World) (v' : Value) : Prop := w.grownBy w' v.ownBlock ∧ ∀ k, v'.ownBlock = some k → v.ownBlock = some k ∨ w.heap.size ≤ k
theorem Grew.refl (w : World) (v : Value) : Grew w v w v := ⟨grown_refl _ _, fun k h => .inl h⟩
theorem Grew.trans {w w1 w2 : World} {v v1 v2 : Value} (h : Grew w v w1 v1) (k : Grew w1 v1 w2 v2) : Grew w v w2 v2 := by
  refine ⟨⟨k.1.os.trans h.1.os, k.1.tape.trans h.1.tape, k.1.output.trans h.1.output, Nat.le_trans h.1.size k.1.size, fun i hi hn => ?_⟩, fun j hj => ?_⟩
  · refine (k.1.block i (Nat.lt_of_lt_of_le hi h.1.size) (fun e => ?_)).trans (h.1.block i hi hn)
    rcases h.2 i e.symm with h' | h'
    · exact hn h'.symm
    · omega
  · rcases k.2 j hj with h' | h'
    · exact h.2 j h'
    · exact .inr (Nat.le_trans h.1.size h')
theorem Grew.below {w w' : World} {v v' : Value} {base e size n : Nat} {xs : List Value} (h : Grew w v w' v') (ho : w.ownsRow base e size v n xs) (hb : base ≤ w.heap.size) : Below base w w' :=
  ((Below.refl _ w).mono hb |>.grown h.1 hb (fun k e => (ho.lt k e).1))
/-- A cell of another block than v's own is as it was. -/
theorem Grew.cell {w w' : World} {v v' : Value} (h : Grew w v w' v') {a : Addr} (hl : a.block < w.heap.size) (hn : v.ownBlock ≠ some a.block) : w'.cell? a = w.cell? a :=
  World.cell?_of_block (h.1.block a.block hl (fun e => hn e.symm))

/-- A byte of a number. -/
def hiB (n : Int) (k : Nat) : Int := (n / (2 : Int) ^ (8 * k)) % 256
def highs (n : Int) (s : Nat) : List Int := (List.range s).map fun j => hiB n (s - 1 - j)
theorem highs_length (n : Int) (s : Nat) : (highs n s).length = s := by simp [highs]
theorem highs_step {n : Int} {s j : Nat} (h : j < s) : (highs n s).take (j + 1) = (highs n s).take j ++ [hiB n (s - 1 - j)] := by
  rw [List.take_succ_eq_append_getElem (by simpa [highs] using h)]
  simp [highs]
theorem hiB_in (n : Int) (k : Nat) : 0 ≤ hiB n k ∧ hiB n k ≤ 255 := by
  unfold hiB
  have h1 := Int.emod_nonneg (n / (2 : Int) ^ (8 * k)) (show (256 : Int) ≠ 0 by omega)
  have h2 := Int.emod_lt_of_pos (n / (2 : Int) ^ (8 * k)) (show (0 : Int) < 256 by omega)
  omega
theorem highs_by (n : Int) (s : Nat) : ByL (highs n s) := fun x hx => by
  obtain ⟨j, _, rfl⟩ := List.mem_map.1 hx
  exact hiB_in n _

/-- One byte appended. -/
theorem app_byte {w1 : World} {v' : Value} {z : List Int} {x : Int} {base : Nat}
    (hown' : w1.ownsRow base 5 1 v' (z.length + 1) (bys z ++ [.int .u8 x])) : OwnY w1 base v' (z ++ [x]) := by
  unfold OwnY
  rw [show (z ++ [x]).length = z.length + 1 by simp, bys_app]
  exact hown'

/-- The run of an append of one new byte. -/
theorem app_one (w : World) (base : Nat) (v : Value) (z : List Int) (x : Int) (hO : OwnY w base v z) (hb : base ≤ w.heap.size) (hz : z.length ≤ 4194304) :
    ∃ v' w', (Builtin.append_ #[45, 45] 45 #[v, .slice (some ⟨w.heap.size, 0, none⟩) 1 1]).run Try.prog (w.alloc (.cells #[.int .u8 x] 5)) = .ok v' w' ∧ OwnY w' base v' (z ++ [x]) ∧ Grew w v w' v' := by
  obtain ⟨i0, hi, hz0, hz1, hz2⟩ := info_parts Try.infoByte
  obtain ⟨g, cap, w1, hr, ho, hg, hat, _⟩ := run_append_lies (P := Try.prog) (w.alloc (.cells #[.int .u8 x] 5)) 45 45 base 5 i0 _ 1 1 Try.underlying45 hi hz0 hz1 hz2 rfl (by decide) v z.length _ (World.ownsRow.alloc hO _) ⟨w.heap.size, 0, none⟩ 1 1 [.int .u8 x] rfl (cell_one_new _ _ _) (by simp [Value.oneCell']) (by omega) (by unfold maxLen; omega) (by omega) (by simp; omega) _ rfl
  refine ⟨_, _, hr, app_byte ho, ⟨?_, ?_⟩⟩
  · exact grown_trans (grown_below (cell_below _ _)) hg
  · intro k hk
    have e : g = k := by simpa [Value.ownBlock] using hk
    subst e
    rcases hat with h | h
    · exact .inl h
    · right; rw [h]; simp

theorem hiB0 (n : Int) : hiB n 0 = n % 256 := by simp [hiB]
theorem hiB1 (n : Int) : hiB n 1 = n / 256 % 256 := by simp [hiB]
theorem hiB2 (n : Int) : hiB n 2 = n / 65536 % 256 := by simp [hiB]

set_option maxRecDepth 100000 in
set_option maxHeartbeats 2000000 in
theorem appendHigh_any (base : Nat) (v : Value) (z : List Int) (n : Int) (s : Nat) (w : World) (hO : OwnY w base v z) (hb : base ≤ w.heap.size) (hz : z.length ≤ 2097152) (hs : s ≤ 3) (h0 : 0 ≤ n) (h1 : n ≤ 1000000000) :
    Calls Try.prog 73 #[v, .int .i64 n, .int .i64 s] w fun e w' => ∃ v', e = .returned v' ∧ OwnY w' base v' (z ++ highs n s) ∧ Grew w v w' v' := by
  go_enter Try.func73, Try.ntmps73
  go_wp2
  go_loopw [0, 7] (fun o i wr => ∃ (k j : Nat), j + k = s ∧ i = .int .i64 ((k : Int) - 1) ∧ OwnY wr base o (z ++ (highs n s).take j) ∧ Grew w v wr o) (fun _ i _ => (intOf i + 1).toNat)
  case atStart => exact ⟨s, 0, by omega, rfl, by simpa using hO, Grew.refl _ _⟩
  case round =>
    obtain ⟨k, j, hj, rfl, hown, hG⟩ := hrel
    by_cases hlt : 1 ≤ k
    · have hwb : base ≤ wr.heap.size := Nat.le_trans hb hG.1.size
      obtain ⟨v', w', hr, ho', hg'⟩ := app_one wr base u0 (z ++ (highs n s).take j) (hiB n (s - 1 - j)) hown hwb (by simp [highs_length]; omega)
      have HF : Hid (OwnY w' base v' (z ++ (highs n s).take (j + 1)) ∧ Grew w v w' v') := ⟨by rw [highs_step (by omega), ← List.append_assoc]; exact ho', hG.trans hg'⟩
      clear ho' hg' hown hG hO
      rcases (show k = 1 ∨ k = 2 ∨ k = 3 by omega) with rfl | rfl | rfl
      · rw [show s - 1 - j = 0 by omega, hiB0] at hr
        go_wp2
        go_roundw
        case rel => exact ⟨0, j + 1, by omega, by go_num, (unhide HF).1, (unhide HF).2⟩
        case measure => simp [intOf]
      · rw [show s - 1 - j = 1 by omega, hiB1] at hr
        go_wp2
        go_roundw
        case rel => exact ⟨1, j + 1, by omega, by go_num, (unhide HF).1, (unhide HF).2⟩
        case measure => simp [intOf]
      · rw [show s - 1 - j = 2 by omega, hiB2] at hr
        go_wp2
        go_roundw
        case rel => exact ⟨2, j + 1, by omega, by go_num, (unhide HF).1, (unhide HF).2⟩
        case measure => simp [intOf]
    · have hk : k = 0 := by omega
      subst hk
      go_wp2
      go_ret
      have e : j = s := by omega
      subst e
      rw [List.take_of_length_le (by simp [highs])] at hown
      exact ⟨_, rfl, hown, hG⟩
end Go.Proofs.Ytonpahhcfgdeoaa

/- appendNumber of the program, l6Put of the specification. -/
namespace Go.Proofs.Ytonpahhcfgdeoaa
open Go.RowKit
set_option linter.unusedVariables false
set_option linter.unusedSimpArgs false
attribute [-go_sem] Go.Builtin.append_

/-- The run of an append of bytes that lie somewhere. -/
theorem app_row (w : World) (base : Nat) (v : Value) (z y : List Int) (b off cap : Nat) (hO : OwnY w base v z) (hb : base ≤ w.heap.size) (hz : z.length + y.length ≤ 4194304) (hA : AtY w b off y) (h0 : 0 < y.length) :
    ∃ v' w', (Builtin.append_ #[45, 45] 45 #[v, .slice (some ⟨b, off, none⟩) y.length cap]).run Try.prog w = .ok v' w' ∧ OwnY w' base v' (z ++ y) ∧ Grew w v w' v' := by
  obtain ⟨i0, hi, hz0, hz1, hz2⟩ := info_parts Try.infoByte
  obtain ⟨g, c, w1, hr, ho, hg, hat, _⟩ := run_append_lies (P := Try.prog) w 45 45 base 5 i0 _ 1 1 Try.underlying45 hi hz0 hz1 hz2 rfl (by decide) v z.length _ hO ⟨b, off, none⟩ y.length cap (bys y) (by simp [bys]) (fun j u hj => by
    have hjl : j < y.length := by
      have := (List.getElem?_eq_some_iff.1 hj).1
      simpa [bys] using this
    rw [bys_get y j hjl] at hj
    have e : (⟨b, off, none⟩ : Addr).add j = ⟨b, off + j, none⟩ := by unfold Addr.add; split <;> simp_all
    rw [e, hA j hjl]
    exact hj) (bys_one y) h0 (by unfold maxLen; omega) (by omega) hb _ rfl
  refine ⟨_, _, hr, ?_, hg, ?_⟩
  · unfold OwnY
    rw [List.length_append, bys_app]
    exact ho
  · intro k hk
    have e : g = k := by simpa [Value.ownBlock] using hk
    subst e
    rcases hat with h | h
    · exact .inl h
    · right; omega

theorem atY_new (w : World) (y : List Int) : AtY (w.alloc (.cells (bys y).toArray 5)) w.heap.size 0 y := fun i hi => by
  have hb := heap_alloc_new w (.cells (bys y).toArray 5)
  simp only [World.cell?, hb]
  simpa using bys_get y i hi

/-- The run of an append of new bytes. -/
theorem app_new (w : World) (base : Nat) (v : Value) (z y : List Int) (cs : Array Value) (hcs : cs = (bys y).toArray) (n : Nat) (hn : n = y.length) (hO : OwnY w base v z) (hb : base ≤ w.heap.size) (hz : z.length + y.length ≤ 4194304) (h0 : 0 < y.length) :
    ∃ v' w', (Builtin.append_ #[45, 45] 45 #[v, .slice (some ⟨w.heap.size, 0, none⟩) n n]).run Try.prog (w.alloc (.cells cs 5)) = .ok v' w' ∧ OwnY w' base v' (z ++ y) ∧ Grew w v w' v' := by
  subst hcs hn
  obtain ⟨v', w', hr, ho, hg⟩ := app_row (w.alloc (.cells (bys y).toArray 5)) base v z y w.heap.size 0 y.length (hO.below (cell_below _ _)) (by simp; omega) hz (atY_new w y) h0
  refine ⟨v', w', hr, ho, grown_trans (grown_below (cell_below _ _)) hg.1, fun k hk => ?_⟩
  rcases hg.2 k hk with h | h
  · exact .inl h
  · right; simp at h; omega

def num3 (n : Int) : List Int := highs (n + 100000) 3
theorem num3_eq (n : Int) : num3 n = [(n + 100000) / 65536 % 256, (n + 100000) / 256 % 256, (n + 100000) % 256] := by
  simp [num3, highs, List.range_succ, hiB]

set_option maxRecDepth 100000 in
set_option maxHeartbeats 1000000 in
theorem appendNumber_any (base : Nat) (v : Value) (z : List Int) (n : Int) (w : World) (hO : OwnY w base v z) (hb : base ≤ w.heap.size) (hz : z.length ≤ 2097152) (h0 : -100000 ≤ n) (h1 : n ≤ 100000000) :
    Calls Try.prog 76 #[v, .int .i64 n] w fun e w' => ∃ v', e = .returned v' ∧ OwnY w' base v' (z ++ num3 n) ∧ Grew w v w' v' := by
  have H := hide (appendHigh_any base v z (n + 100000) 3 w hO hb hz (by omega) (by omega) (by omega))
  go_enter Try.func76, Try.ntmps76
  go_wp2_with fail
  refine (unhide H).mono ?_
  rintro e w1 ⟨v', rfl, ho, hg⟩
  go_wp2
  go_ret
  exact ⟨v', rfl, ho, hg⟩

theorem made_noneY (w : World) (base : Nat) (hb : base ≤ w.heap.size) : OwnY (w.alloc (.cells #[] 5)) base (.slice (some ⟨w.heap.size, 0, none⟩) 0 0) [] := World.ownsRow_made w #[] 0 hb (by simp [maxLen]) rfl

set_option maxRecDepth 100000 in
set_option maxHeartbeats 2000000 in
theorem l6Put_any (b off cap : Nat) (z : List Int) (n : Int) (w : World) (hA : AtY w b off z) (hl : 0 < z.length) (hz : z.length ≤ 2097152) (h0 : -100000 ≤ n) (h1 : n ≤ 100000000) :
    Calls Try.prog 45 #[.slice (some ⟨b, off, none⟩) z.length cap, .int .i64 n] w fun e w' => ∃ v', e = .returned v' ∧ OwnY w' w.heap.size v' (z ++ num3 n) ∧ Below w.heap.size w w' := by
  have hb0 : Below w.heap.size w (w.alloc (.cells #[] 5)) := cell_below _ _
  obtain ⟨v1, w1, r1, o1, g1⟩ := app_row (w.alloc (.cells #[] 5)) w.heap.size (.slice (some ⟨w.heap.size, 0, none⟩) 0 0) [] z b off cap (made_noneY w _ (Nat.le_refl _)) hb0.size (by simp; omega) (hA.below hb0) hl
  rw [List.nil_append] at o1
  have B1 : Below w.heap.size w w1 := hb0.trans (g1.below (made_noneY w w.heap.size (Nat.le_refl _)) hb0.size)
  obtain ⟨v2, w2, r2, o2, g2⟩ := app_new w1 w.heap.size v1 z (num3 n) #[.int .u8 ((n + 99999 + 1) / 65536 % 256), .int .u8 ((n + 99999 + 1) / 256 % 256), .int .u8 ((n + 99999 + 1) % 256)] (by rw [num3_eq, show n + 99999 + 1 = n + 100000 by omega]; rfl) 3 (by rw [num3_eq]; rfl) o1 B1.size (by rw [num3_eq]; simp; omega) (by rw [num3_eq]; simp)
  have B2 : Below w.heap.size w w2 := B1.trans (g2.below o1 B1.size)
  have HF : Hid (OwnY w2 w.heap.size v2 (z ++ num3 n) ∧ Below w.heap.size w w2) := ⟨o2, B2⟩
  clear B1 B2 o1 o2 g1 g2 hb0 hA
  go_enter Try.func45, Try.ntmps45
  go_wp2
  go_ret
  exact ⟨_, rfl, (unhide HF).1, (unhide HF).2⟩
end Go.Proofs.Ytonpahhcfgdeoaa

/- A term in bytes, by lists; the specification's TrmBytes. -/
namespace Go.Proofs.Ytonpahhcfgdeoaa
open Go.RowKit
set_option linter.unusedVariables false
set_option linter.unusedSimpArgs false
attribute [-go_sem] Go.Builtin.append_

/-- A text's bytes. -/
def bytesL (s : ByteArray) : List Int := s.data.toList.map fun b => (b.toNat : Int)
theorem bytesL_length (s : ByteArray) : (bytesL s).length = s.size := by simp [bytesL]
theorem bytesL_by (s : ByteArray) : ByL (bytesL s) := fun x hx => by
  obtain ⟨b, _, rfl⟩ := List.mem_map.1 hx
  have := b.toNat_lt
  omega
theorem strCells_bys (s : ByteArray) : Go.Lib.strCells s = bys (bytesL s) := by
  simp [Go.Lib.strCells, bys, bytesL]

/-- A place in bytes. -/
def encC (c : C) : List Int := [c.k] ++ num3 c.n ++ if c.k = 3 then [(c.s.size : Int)] ++ bytesL c.s else []
def encL (t : List C) : List Int := t.flatMap encC
/-- A term in bytes; none, if it is none. -/
def encT (t : List C) : List Int := if trm t then [(t.length : Int)] ++ encL t else []

theorem num3_length (n : Int) : (num3 n).length = 3 := by simp [num3, highs]
theorem okC_parts {c : C} (h : okC c = true) : (c.k = 1 ∨ c.k = 2 ∨ c.k = 3) ∧ -9999 ≤ c.n ∧ c.n ≤ 99999 ∧ c.s.size ≤ 8 := by
  by_cases h1 : c.k = 1
  · have := (okC1 h1).1 h
    omega
  by_cases h2 : c.k = 2
  · have := (okC2 h2).1 h
    omega
  by_cases h3 : c.k = 3
  · have := (okC3 h3).1 h
    have h4 := this.2.2
    unfold nameB at h4
    simp only [Bool.and_eq_true, decide_eq_true_eq] at h4
    omega
  · rw [okC4 h1 h2 h3] at h
    cases h
theorem encC_length {c : C} (h : okC c = true) : (encC c).length ≤ 13 := by
  have := okC_parts h
  unfold encC
  rw [List.length_append, List.length_append, num3_length]
  split
  · rw [List.length_append, bytesL_length]
    simp
    omega
  · simp
theorem encL_length : ∀ (t : List C), (∀ c ∈ t, okC c = true) → (encL t).length ≤ 13 * t.length
  | [], _ => by simp [encL]
  | c :: t, h => by
      have h1 := encC_length (h c (by simp))
      have h2 := encL_length t (fun x hx => h x (by simp [hx]))
      unfold encL at h2 ⊢
      rw [List.flatMap_cons, List.length_append, List.length_cons]
      omega
theorem encL_take {t : List C} {k : Nat} (h : k < t.length) : encL (t.take (k + 1)) = encL (t.take k) ++ encC t[k] := by
  unfold encL
  rw [List.take_succ_eq_append_getElem h, List.flatMap_append]
  simp
theorem by_mod (x : Int) : 0 ≤ x % 256 ∧ x % 256 ≤ 255 := by
  have h1 := Int.emod_nonneg x (show (256 : Int) ≠ 0 by omega)
  have h2 := Int.emod_lt_of_pos x (show (0 : Int) < 256 by omega)
  omega
theorem encC_by {c : C} (h : okC c = true) : ByL (encC c) := by
  have hp := okC_parts h
  unfold encC
  refine ByL.app (ByL.app (ByL.one (by omega)) (highs_by _ _)) ?_
  split
  · exact ByL.app (ByL.one (by omega)) (bytesL_by _)
  · exact ByL.nil
theorem encL_by {t : List C} (h : ∀ c ∈ t, okC c = true) : ByL (encL t) := fun x hx => by
  obtain ⟨c, hc, h'⟩ := List.mem_flatMap.1 hx
  exact encC_by (h c hc) x h'
theorem encT_by (t : List C) : ByL (encT t) := by
  unfold encT
  split
  · rename_i h
    have h1 := (trm_iff t).1 h
    exact ByL.app (ByL.one (by omega)) (encL_by h1.2.2.1)
  · exact ByL.nil
theorem encT_length (t : List C) : (encT t).length ≤ 521 := by
  unfold encT
  split
  · rename_i h
    have h1 := (trm_iff t).1 h
    have h2 := encL_length t h1.2.2.1
    simp
    omega
  · simp

/-- The run of an append of a text's bytes. -/
theorem app_str (w : World) (base : Nat) (v : Value) (z : List Int) (s : ByteArray) (hO : OwnY w base v z) (hb : base ≤ w.heap.size) (hz : z.length + s.size ≤ 4194304) :
    ∃ v' w', (Builtin.append_ #[45, 9] 45 #[v, .string s]).run Try.prog w = .ok v' w' ∧ OwnY w' base v' (z ++ bytesL s) ∧ w.grownBy w' v.ownBlock := by
  obtain ⟨i0, hi, hz0, hz1, hz2⟩ := info_parts Try.infoByte
  obtain ⟨v', w', hr, ho, hg, _⟩ := Go.Lib.run_append_own_string (P := Try.prog) w base 45 9 45 5 i0 Try.underlying45 Try.underlying9 hi hz0 hz1 hz2 v z.length (bys z) hO s (by unfold maxLen; omega) (by omega) hb
  refine ⟨v', w', hr, ?_, hg⟩
  unfold OwnY
  rw [List.length_append, bys_app, bytesL_length, ← strCells_bys]
  exact ho

/-- New bytes are owned. -/
theorem own_new (w : World) (base : Nat) (y : List Int) (cs : Array Value) (hcs : cs = (bys y).toArray) (n : Nat) (hn : n = y.length) (hb : base ≤ w.heap.size) (hl : y.length ≤ 4194304) :
    OwnY (w.alloc (.cells cs 5)) base (.slice (some ⟨w.heap.size, 0, none⟩) n n) y := by
  subst hcs hn
  refine ⟨by simp [bys], .inr ⟨w.heap.size, y.length, _, rfl, hb, heap_alloc_new w _, Nat.le_refl _, by unfold maxLen; omega, by simp [bys], ?_⟩⟩
  simp [bys, List.take_of_length_le]

set_option maxRecDepth 100000 in
set_option maxHeartbeats 4000000 in
theorem specTrmBytes_ok (b off cap : Nat) (t : List C) (w : World) (hA : At w b off t) (hF : Fit t) (ht : trm t = true) :
    Calls Try.prog 46 #[.slice (some ⟨b, off, none⟩) t.length cap] w fun e w' => ∃ v, e = .returned v ∧ OwnY w' w.heap.size v ([(t.length : Int)] ++ encL t) ∧ Below w.heap.size w w' := by
  have hti := (trm_iff t).1 ht
  have hel := encL_length t hti.2.2.1
  have hl40 := hti.2.1
  have HOK := hide hti.2.2.1
  have HT := hide (specTrmOk_any (some ⟨b, off, none⟩) cap t w (by unfold maxLen; omega) (.inr ⟨b, off, rfl, hA⟩) hF)
  rw [ht] at HT
  clear hti ht
  go_enter Try.func46, Try.ntmps46
  go_wp2_with fail
  refine (unhide HT).mono ?_
  rintro e w1 ⟨rfl, hb1⟩
  clear HT
  have hO0 := own_new w1 w.heap.size [(t.length : Int)] #[.int .u8 ((t.length : Int))] rfl 1 rfl hb1.size (by simp)
  have hB0 : Below w.heap.size w (w1.alloc (.cells #[.int .u8 ((t.length : Int))] 5)) := bstep hb1 (cell_below _ _)
  go_wp2
  go_loopw [3, 4] (fun o i wr => ∃ (k : Nat), k ≤ t.length ∧ i = .int .i64 k ∧ OwnY wr w.heap.size o ([(t.length : Int)] ++ encL (t.take k)) ∧ Below w.heap.size w wr) (fun _ i _ => t.length - (intOf i).toNat)
  case atStart => exact ⟨0, Nat.zero_le _, rfl, by simpa [encL] using hO0, hB0⟩
  case round =>
    obtain ⟨k, hk, rfl, hown, hB⟩ := hrel
    by_cases hlt : k < t.length
    · have hok := okC_parts (unhide HOK _ (List.getElem_mem hlt))
      have hz : ([(t.length : Int)] ++ encL (t.take k)).length ≤ 600 := by
        have := encL_length (t.take k) (fun c hc => unhide HOK c (List.mem_of_mem_take hc))
        simp at this
        simp
        omega
      obtain ⟨c0, c1, c2⟩ := (hA.below hB) k hlt
      have HS := hide (encL_take hlt)
      have hsz := hF.get k hlt
      obtain ⟨c, hc⟩ : ∃ c, c = t[k] := ⟨_, rfl⟩
      rw [← hc] at c0 c1 c2 HS hok
      clear hc hsz
      obtain ⟨z, hzz⟩ : ∃ z, z = [(t.length : Int)] ++ encL (t.take k) := ⟨_, rfl⟩
      rw [← hzz] at hown hz
      have HZ := hide hzz
      clear hzz
      obtain ⟨v1, w2, r1, o1, g1⟩ := app_one wr w.heap.size u3 z (c.k) hown hB.size (by omega)
      have B1 : Below w.heap.size w w2 := hB.trans (g1.below hown hB.size)
      obtain ⟨g, cp, rfl, hg0, hg1, hgA, _, _⟩ := o1.some (by simp)
      have hlen1 : (z ++ [c.k]).length = z.length + 1 := by simp
      have HP := hide (l6Put_any g 0 cp (z ++ [c.k]) c.n w2 hgA (by simp) (by simp; omega) (by omega) (by omega))
      rw [hlen1] at HP r1
      have hb2 : Below wr.heap.size wr w2 → True := fun _ => trivial
      have hbl : b < w.heap.size := hA.lt (by omega)
      have hcell : ∀ (W : World) (o : Nat), Below w.heap.size w W → W.cell? ⟨b, off + k * 3 + o, none⟩ = wr.cell? ⟨b, off + k * 3 + o, none⟩ := fun W o hW => (hW.cell (p := ⟨b, off + k * 3 + o, none⟩) hbl).trans (hB.cell (p := ⟨b, off + k * 3 + o, none⟩) hbl).symm
      have d1 := (hcell w2 1 B1).trans c1
      have c2' := c2
      have c0' := c0
      have HC2 := hide c2'
      have HC0 := hide c0'
      have HCELL := hide hcell
      clear hb2 o1 g1 hgA c2 c2' c0' hcell
      go_wp2_with fail
      refine (unhide HP).mono ?_
      rintro e w3 ⟨v2, rfl, o2, hb3⟩
      have B3 : Below w.heap.size w w3 := B1.trans (hb3.mono B1.size)
      have O2 : OwnY w3 w.heap.size v2 (z ++ [c.k] ++ num3 c.n) := own_lo o2 (fun j e => Nat.le_trans B1.size (World.ownsRow.lt o2 j e).1)
      have e0 : w3.cell? ⟨b, off + k * 3, none⟩ = some (.int .i64 c.k) := (unhide HCELL w3 0 B3).trans (unhide HC0)
      have e2 := (unhide HCELL w3 2 B3).trans (unhide HC2)
      clear HP d1 c1 hb3 o2
      by_cases h3 : c.k = 3
      · have hs8 : c.s.size ≤ 8 := hok.2.2.2
        have hz2 : (z ++ [c.k] ++ num3 c.n).length ≤ 700 := by rw [List.length_append, List.length_append, num3_length]; simp; omega
        obtain ⟨v3, w4, r3, o3, g3⟩ := app_one w3.drew w.heap.size v2 (z ++ [c.k] ++ num3 c.n) (c.s.size : Int) (World.ownsRow.drew O2) B3.size (by omega)
        have r3' : Sem.run Try.prog (Builtin.append_ #[45, 45] 45 #[v2, .slice (some ⟨w3.heap.size, 0, none⟩) 1 1]) (w3.alloc (.cells #[.int .u8 (c.s.size : Int)] 5)).drew = .ok v3 w4 := r3
        have B4 : Below w.heap.size w w4 := B3.drew.trans (g3.below (World.ownsRow.drew O2) B3.size)
        obtain ⟨v4, w5, r4, o4, g4⟩ := app_str w4 w.heap.size v3 _ c.s o3 B4.size (by rw [List.length_append]; simp only [List.length_cons, List.length_nil]; omega)
        have B5 : Below w.heap.size w w5 := B4.grown g4 B4.size (fun j e => (World.ownsRow.lt o3 j e).1)
        have e2a : (w3.alloc (.cells #[.int .u8 (c.s.size : Int)] 5)).cell? ⟨b, off + k * 3 + 2, none⟩ = some (.string c.s) := (unhide HCELL _ 2 (B3.alloc B3.size _)).trans (unhide HC2)
        have e2b : w4.cell? ⟨b, off + k * 3 + 2, none⟩ = some (.string c.s) := (unhide HCELL _ 2 B4).trans (unhide HC2)
        have HF : Hid (OwnY w5 w.heap.size v4 ([(t.length : Int)] ++ encL (t.take (k + 1))) ∧ Below w.heap.size w w5) := by
          refine ⟨?_, B5⟩
          rw [unhide HS, ← List.append_assoc, ← unhide HZ]
          simpa [encC, h3, List.append_assoc] using o4
        clear o3 g3 o4 g4 O2 B4 B5 r3 HOK HS HZ HCELL HC0 HC2 hown hel hz hz2 hok
        go_wp2
        go_region
        all_goals go_wp2
        all_goals go_roundw
        case rel => exact ⟨k + 1, by omega, by go_num, (unhide HF).1, (unhide HF).2⟩
        case measure => simp [intOf]; omega
      · have HF : Hid (OwnY w3 w.heap.size v2 ([(t.length : Int)] ++ encL (t.take (k + 1))) ∧ Below w.heap.size w w3) := by
          refine ⟨?_, B3⟩
          rw [unhide HS, ← List.append_assoc, ← unhide HZ]
          simpa [encC, h3, List.append_assoc] using O2
        have hb : (c.k == 3) = false := by simpa using h3
        clear O2 B3 HOK HS HZ HCELL HC0 HC2 hown hel hz hok h3
        go_wp2
        go_roundw
        case rel => exact ⟨k + 1, by omega, by go_num, (unhide HF).1, (unhide HF).2⟩
        case measure => simp [intOf]; omega
    · go_wp2
      go_ret
      rw [List.take_of_length_le (by omega)] at hown
      exact ⟨_, rfl, hown, hB⟩
end Go.Proofs.Ytonpahhcfgdeoaa
