/- The walks of the laws' own helpers over places: szTrmCell(S), toTrmCell(S), eqTrmCell(S). -/
import Derived.Test.YtjjpmlcaapedhaaDoorQW1
import Derived.Test.YtjjpmlcaapedhaaDoorQMem2Mem3W9W11W12
import Derived.OwnWalk
import Derived.Deep.RegionWith
namespace Go.Proofs.YtjjpmlcaapedhaaDoor
open Go.RowKit
set_option linter.unusedVariables false
set_option linter.unusedSimpArgs false

theorem below3 (w : World) (a b c : Obj) : Below w.heap.size w (((w.alloc a).alloc b).alloc c) :=
  (((Below.refl _ _).alloc (Nat.le_refl _) _).alloc (by simp) _).alloc (by simp; omega) _
theorem below2 (w : World) (a b : Obj) : Below w.heap.size w ((w.alloc a).alloc b) :=
  ((Below.refl _ _).alloc (Nat.le_refl _) _).alloc (by simp) _

theorem C_ext {c d : C} (h1 : c.k = d.k) (h2 : c.n = d.n) (h3 : c.s = d.s) : c = d := by
  cases c; cases d; simp_all

/-- Two places are the same. -/
def same (c d : C) : Bool := (c.k == d.k) && (c.n == d.n) && (c.s.data.toList == d.s.data.toList)

theorem bytes_ext {a b : ByteArray} (h : a.data.toList = b.data.toList) : a = b := by
  cases a; cases b
  simp only [ByteArray.mk.injEq]
  exact Array.toList_inj.1 h

theorem same_iff (c d : C) : same c d = true ↔ c = d := by
  unfold same
  simp only [Bool.and_eq_true, beq_iff_eq]
  constructor
  · rintro ⟨⟨h1, h2⟩, h3⟩
    exact C_ext h1 h2 (bytes_ext h3)
  · rintro rfl
    exact ⟨⟨rfl, rfl⟩, rfl⟩

set_option maxHeartbeats 400000 in
theorem eqTrmCell_any (c d : C) (w : World) :
    Calls Tryd.prog 32 #[.agg #[.int .i64 c.k, .int .i64 c.n, .string c.s], .agg #[.int .i64 d.k, .int .i64 d.n, .string d.s]] w fun e w' => e = .returned (.bool (same c d)) ∧ Below w.heap.size w w' := by
  by_cases h1 : c.k = d.k
  · have hb1 : (c.k != d.k) = false := by simpa using h1
    by_cases h2 : c.n = d.n
    · have hb2 : (c.n != d.n) = false := by simpa using h2
      by_cases h3 : c.s.data.toList = d.s.data.toList
      · have HE : Hid (same c d = true) := by show same c d = true; simp [same, h1, h2, h3]
        have hb3 : (c.s.toList == d.s.toList) = true := by rw [ByteArray.toList_eq, ByteArray.toList_eq]; simpa using h3
        clear h1 h2 h3
        go_enter Tryd.func32, Tryd.ntmps32
        go_wp2
        go_ret
        exact ⟨ret_bool (unhide HE).symm, below2 _ _ _⟩
      · have HE : Hid (same c d = false) := by show same c d = false; simp only [same, Bool.and_eq_false_iff, beq_eq_false_iff_ne]; exact .inr h3
        have hb3 : (c.s.toList == d.s.toList) = false := by rw [ByteArray.toList_eq, ByteArray.toList_eq]; simpa using h3
        clear h1 h2 h3
        go_enter Tryd.func32, Tryd.ntmps32
        go_wp2
        go_ret
        exact ⟨ret_bool (unhide HE).symm, below2 _ _ _⟩
    · have HE : Hid (same c d = false) := by show same c d = false; simp [same, h2]
      have hb2 : (c.n != d.n) = true := by simpa using h2
      clear h1 h2
      go_enter Tryd.func32, Tryd.ntmps32
      go_wp2
      go_ret
      exact ⟨ret_bool (unhide HE).symm, below2 _ _ _⟩
  · have HE : Hid (same c d = false) := by show same c d = false; simp [same, h1]
    have hb1 : (c.k != d.k) = true := by simpa using h1
    clear h1
    go_enter Tryd.func32, Tryd.ntmps32
    go_wp2
    go_ret
    exact ⟨ret_bool (unhide HE).symm, below2 _ _ _⟩

theorem Tryd.infoCell : (Tryd.prog.info? 49).map (fun i => (i.zero, i.size, i.bytes)) = some (some (.agg #[.int .i64 0, .int .i64 0, .string ByteArray.empty]), 3, 32) := by kernel_rfl

/-- What a round of toTrmCellS leaves. -/
theorem own_kept {w w1 : World} {base e size n : Nat} {v : Value} {xs : List Value} (h : w.ownsRow base e size v n xs) (hb : Below w.heap.size w w1) : w1.ownsRow base e size v n xs := by
  refine h.kept (row := none) ⟨hb.os, hb.tape, hb.output, hb.size, fun j hj _ => hb.block j hj⟩ ?_
  cases v.ownBlock with
  | none => exact .inl rfl
  | some k => exact .inr (by simp)

theorem own_cells {w : World} {base e g n k : Nat} {xs : List Value} (h : w.ownsRow base e 3 (.slice (some ⟨g, 0, none⟩) n n) n xs) (hk : k < n) :
    ∃ a b c, w.cell? ⟨g, k * 3, none⟩ = some a ∧ w.cell? ⟨g, k * 3 + 1, none⟩ = some b ∧ w.cell? ⟨g, k * 3 + 2, none⟩ = some c := by
  have hl := h.1
  refine ⟨xs[k * 3]'(by omega), xs[k * 3 + 1]'(by omega), xs[k * 3 + 2]'(by omega), ?_, ?_, ?_⟩
  · rw [h.cellAt _ (by omega)]; exact List.getElem?_eq_getElem _
  · rw [h.cellAt _ (by omega)]; exact List.getElem?_eq_getElem _
  · rw [h.cellAt _ (by omega)]; exact List.getElem?_eq_getElem _

theorem to_round {w wr w1 : World} {g n k : Nat} {xs : List Value} {t : List C} {c : C} (hk : k < t.length) (hc : c = t[k]) (hn : n = t.length)
    (hown : wr.ownsRow w.heap.size 49 3 (.slice (some ⟨g, 0, none⟩) n n) n xs) (hx : xs.take (k * 3) = flat (t.take k)) (hb1 : Below wr.heap.size wr w1) (hB : Below w.heap.size w wr) :
    ∃ xs', (((w1.setCell ⟨g, k * 3, none⟩ (.int .i64 c.k)).setCell ⟨g, k * 3 + 1, none⟩ (.int .i64 c.n)).setCell ⟨g, k * 3 + 2, none⟩ (.string c.s)).ownsRow w.heap.size 49 3 (.slice (some ⟨g, 0, none⟩) n n) n xs' ∧
      xs'.take ((k + 1) * 3) = flat (t.take (k + 1)) ∧ Below w.heap.size w (((w1.setCell ⟨g, k * 3, none⟩ (.int .i64 c.k)).setCell ⟨g, k * 3 + 1, none⟩ (.int .i64 c.n)).setCell ⟨g, k * 3 + 2, none⟩ (.string c.s)) := by
  have hgb : w.heap.size ≤ g ∧ g < wr.heap.size := hown.lt g rfl
  have hown1 := own_kept hown hb1
  refine ⟨_, (((hown1.stored (k * 3) (.int .i64 c.k)).1.stored (k * 3 + 1) (.int .i64 c.n)).1.stored (k * 3 + 2) (.string c.s)).1, ?_, ?_⟩
  · have hl : xs.length = n * 3 := hown.1
    rw [set3_take xs k _ _ _ (by omega), hx, List.take_succ_eq_append_getElem hk, flat_append, ← hc]
    rfl
  · exact (((bstep hB hb1).setCell (p := ⟨g, _, none⟩) hgb.1 _).setCell (p := ⟨g, _, none⟩) hgb.1 _).setCell (p := ⟨g, _, none⟩) hgb.1 _

/-- Lists of places are the same. -/
def sameS (t u : List C) : Bool := decide (t.length = u.length) && (t.zip u).all fun p => same p.1 p.2

theorem sameS_iff : ∀ (t u : List C), sameS t u = true ↔ t = u
  | [], [] => by simp [sameS]
  | [], d :: u => by simp [sameS]
  | c :: t, [] => by simp [sameS]
  | c :: t, d :: u => by
      have ih := sameS_iff t u
      simp only [sameS, Bool.and_eq_true, decide_eq_true_eq] at ih
      simp only [sameS, List.length_cons, Bool.and_eq_true, decide_eq_true_eq, List.zip_cons_cons, List.all_cons, same_iff, List.cons.injEq]
      constructor
      · rintro ⟨h1, h2, h3⟩
        exact ⟨h2, ih.1 ⟨by omega, h3⟩⟩
      · rintro ⟨rfl, h⟩
        obtain ⟨h1, h3⟩ := ih.2 h
        exact ⟨by omega, rfl, h3⟩

theorem sameS_no {t u : List C} (h : t ≠ u) : sameS t u = false := by
  cases e : sameS t u with
  | false => rfl
  | true => exact absurd ((sameS_iff t u).1 e) h
theorem sameS_yes {t u : List C} (h : t = u) : sameS t u = true := (sameS_iff t u).2 h

set_option maxHeartbeats 1000000 in
theorem eqTrmCellS_some (b off cap b' off' cap' : Nat) (t u : List C) (w : World) (hm : t.length ≤ maxLen) (hA : At w b off t) (hU : At w b' off' u) (hl : t.length = u.length) :
    Calls Tryd.prog 15 #[.slice (some ⟨b, off, none⟩) t.length cap, .slice (some ⟨b', off', none⟩) u.length cap'] w fun e w' => e = .returned (.bool (sameS t u)) ∧ Below w.heap.size w w' := by
  unfold maxLen at hm
  have hne : ((t.length : Int) != (u.length : Int)) = false := by simp; omega
  have hul : u.length ≤ 2 ^ 63 - 1 := by omega
  have HL := hide hl
  clear hl
  go_enter Tryd.func15, Tryd.ntmps15
  go_wp2
  go_loopw [5] (fun i wr => ∃ (k : Nat), k ≤ t.length ∧ i = .int .i64 k ∧ t.take k = u.take k ∧ Below w.heap.size w wr) (fun i _ => t.length - (intOf i).toNat)
  case atStart => exact ⟨0, Nat.zero_le _, rfl, rfl, Below.refl _ _⟩
  case round =>
    obtain ⟨k, hk, rfl, hx, hB⟩ := hrel
    have HX := hide hx
    clear hx
    by_cases hlt : k < t.length
    · have hlu : k < u.length := by rw [← unhide HL]; exact hlt
      obtain ⟨c0, c1, c2⟩ := (hA.below hB) k hlt
      obtain ⟨d0, d1, d2⟩ := (hU.below hB) k hlu
      obtain ⟨c, hc⟩ : ∃ c, c = t[k] := ⟨_, rfl⟩
      rw [← hc] at c0 c1 c2
      have HC := hide hc
      clear hc
      obtain ⟨d, hd⟩ : ∃ d, d = u[k] := ⟨_, rfl⟩
      rw [← hd] at d0 d1 d2
      have HD := hide hd
      clear hd
      cases hsm : same c d with
      | false =>
        go_wp2
        go_region_with (go_at_call 32; refine (eqTrmCell_any c d _).mono ?_; rintro e w1 ⟨rfl, hb1⟩)
        all_goals go_wp2
        all_goals go_ret
        all_goals refine ⟨ret_bool (sameS_no (fun h => ?_)).symm, ?_⟩
        all_goals first | exact bstep hB.drew (by assumption) | skip
        all_goals (have e : c = d := by rw [unhide HC, unhide HD]; simp [h])
        all_goals (rw [(same_iff c d).2 e] at hsm; cases hsm)
      | true =>
        go_wp2
        go_region_with (go_at_call 32; refine (eqTrmCell_any c d _).mono ?_; rintro e w1 ⟨rfl, hb1⟩)
        all_goals go_wp2
        all_goals go_roundw
        all_goals first | exact ⟨k + 1, by omega, by go_num, by rw [List.take_succ_eq_append_getElem hlt, List.take_succ_eq_append_getElem hlu, unhide HX, ← unhide HC, ← unhide HD, (same_iff c d).1 hsm], bstep hB.drew (by assumption)⟩ | (simp [intOf]; omega)
    · go_wp2
      go_ret
      refine ⟨ret_bool (sameS_yes ?_).symm, hB⟩
      have := unhide HX
      rw [List.take_of_length_le (by omega), List.take_of_length_le (by rw [← unhide HL]; omega)] at this
      exact this
end Go.Proofs.YtjjpmlcaapedhaaDoor
