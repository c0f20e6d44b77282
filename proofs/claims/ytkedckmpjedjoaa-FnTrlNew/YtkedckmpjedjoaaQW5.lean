/- The walks of the laws' own helpers over places: szTrmCell(S), toTrmCell(S), eqTrmCell(S). -/
import Derived.Test.YtkedckmpjedjoaaQW1Mem2Mem3W9
import Derived.OwnWalk
import Derived.Deep.RegionWith
namespace Go.Proofs.Ytkedckmpjedjoaa
open Go.RowKit
set_option linter.unusedVariables false
set_option linter.unusedSimpArgs false

set_option maxHeartbeats 400000 in
theorem szTrmCell_any (c : C) (l : Int) (w : World) (hs : c.s.size ≤ maxLen) (h0 : 0 ≤ l) (h1 : l ≤ 1048576) :
    Calls Try.prog 55 #[.agg #[.int .i64 c.k, .int .i64 c.n, .string c.s], .int .i64 l] w fun e w' => ∃ r : Int, e = .returned (.int .i64 r) ∧ -1 ≤ r ∧ r ≤ l ∧ Below w.heap.size w w' := by
  unfold maxLen at hs
  by_cases h : l - c.s.size < 0
  · go_enter Try.func55, Try.ntmps55
    go_wp2
    go_ret
    exact ⟨_, rfl, by omega, by omega, cell_below _ _⟩
  · go_enter Try.func55, Try.ntmps55
    go_wp2
    go_ret
    exact ⟨_, rfl, by omega, by omega, cell_below _ _⟩

set_option maxHeartbeats 1000000 in
theorem szTrmCellS_some (b off cap : Nat) (t : List C) (l : Int) (w : World) (hm : t.length ≤ maxLen) (hA : At w b off t) (hF : Fit t) (h0 : 0 ≤ l) (h1 : l ≤ 1048576) :
    Calls Try.prog 16 #[.slice (some ⟨b, off, none⟩) t.length cap, .int .i64 l] w fun e w' => ∃ r : Int, e = .returned (.int .i64 r) ∧ (r < 0 ∨ (0 ≤ r ∧ r + t.length ≤ l)) ∧ Below w.heap.size w w' := by
  unfold maxLen at hm
  by_cases h : l - t.length < 0
  · go_enter Try.func16, Try.ntmps16
    go_wp2
    go_ret
    exact ⟨_, rfl, by omega, Below.refl _ _⟩
  · go_enter Try.func16, Try.ntmps16
    go_wp2
    go_loopw [1, 5] (fun m i wr => ∃ (k : Nat) (x : Int), k ≤ t.length ∧ i = .int .i64 k ∧ m = .int .i64 x ∧ 0 ≤ x ∧ x + t.length ≤ l ∧ Below w.heap.size w wr) (fun _ i _ => t.length - (intOf i).toNat)
    case atStart => exact ⟨0, _, Nat.zero_le _, rfl, rfl, by omega, by omega, Below.refl _ _⟩
    case round =>
      obtain ⟨k, x, hk, rfl, rfl, hx0, hx1, hB⟩ := hrel
      by_cases hlt : k < t.length
      · obtain ⟨c0, c1, c2⟩ := (hA.below hB) k hlt
        have hs := hF.get k hlt
        obtain ⟨c, hc⟩ : ∃ c, c = t[k] := ⟨_, rfl⟩
        rw [← hc] at c0 c1 c2 hs
        clear hc
        go_wp2_with fail
        refine (szTrmCell_any c x _ hs hx0 (by omega)).mono ?_
        rintro e w1 ⟨r, rfl, hr0, hr1, hb1⟩
        clear c0 c1 c2
        by_cases hr : r < 0
        · go_wp2
          go_ret
          exact ⟨_, rfl, by omega, bstep hB hb1⟩
        · go_wp2
          go_roundw
          case rel => exact ⟨k + 1, r, by omega, by go_num, rfl, by omega, by omega, bstep hB hb1⟩
          case measure => simp [intOf]; omega
      · go_wp2
        go_ret
        exact ⟨_, rfl, .inr ⟨hx0, hx1⟩, hB⟩

set_option maxHeartbeats 400000 in
theorem szTrmCellS_none (ao : Option Addr) (cap : Nat) (l : Int) (w : World) (h0 : 0 ≤ l) (h1 : l ≤ 1048576) :
    Calls Try.prog 16 #[.slice ao 0 cap, .int .i64 l] w fun e w' => ∃ r : Int, e = .returned (.int .i64 r) ∧ (r < 0 ∨ (0 ≤ r ∧ r + (0 : Nat) ≤ l)) ∧ Below w.heap.size w w' := by
  go_enter Try.func16, Try.ntmps16
  go_wp2
  refine wp_loop_rounds 1 ?_
  rw [rounds_succ]
  go_wp2
  go_ret
  exact ⟨_, rfl, .inr ⟨h0, by omega⟩, Below.refl _ _⟩

theorem szTrmCellS_any (ao : Option Addr) (cap : Nat) (t : List C) (l : Int) (w : World) (hm : t.length ≤ maxLen) (hA : Row w ao t) (hF : Fit t) (h0 : 0 ≤ l) (h1 : l ≤ 1048576) :
    Calls Try.prog 16 #[.slice ao t.length cap, .int .i64 l] w fun e w' => ∃ r : Int, e = .returned (.int .i64 r) ∧ (r < 0 ∨ (0 ≤ r ∧ r + t.length ≤ l)) ∧ Below w.heap.size w w' := by
  rcases hA with rfl | ⟨b, off, rfl, hA⟩
  · exact szTrmCellS_none ao cap l w h0 h1
  · exact szTrmCellS_some b off cap t l w hm hA hF h0 h1

theorem below3 (w : World) (a b c : Obj) : Below w.heap.size w (((w.alloc a).alloc b).alloc c) :=
  (((Below.refl _ _).alloc (Nat.le_refl _) _).alloc (by simp) _).alloc (by simp; omega) _
theorem below2 (w : World) (a b : Obj) : Below w.heap.size w ((w.alloc a).alloc b) :=
  ((Below.refl _ _).alloc (Nat.le_refl _) _).alloc (by simp) _

set_option maxHeartbeats 400000 in
theorem toTrmCell_any (c : C) (w : World) :
    Calls Try.prog 58 #[.agg #[.int .i64 c.k, .int .i64 c.n, .string c.s]] w fun e w' => e = .returned (.agg #[.int .i64 c.k, .int .i64 c.n, .string c.s]) ∧ Below w.heap.size w w' := by
  go_enter Try.func58, Try.ntmps58
  go_wp2
  exact bodyPost_ret (v := .agg #[.int .i64 c.k, .int .i64 c.n, .string c.s]) (by simp [results, Try.results58, go_sem]) rfl ⟨rfl, below3 _ _ _ _⟩

theorem C_ext {c d : C} (h1 : c.k = d.k) (h2 : c.n = d.n) (h3 : c.s = d.s) : c = d := by
  cases c; cases d; simp_all

/-- Two places are the same. -/
def same (c d : C) : Bool := (c.k == d.k) && (c.n == d.n) && (c.s.data.toList == d.s.data.toList)

theorem bytes_ext {a b : ByteArray} (h : a.data.toList = b.data.toList) : a = b := by
  cases a; cases b
  simp only [ByteArray.mk.injEq]
  exact Array.toList_inj.1 h

theorem same_iff (c d : C) : same c d = true ↔ c = d := by
  unfold same
  simp only [Bool.and_eq_true, beq_iff_eq]
  constructor
  · rintro ⟨⟨h1, h2⟩, h3⟩
    exact C_ext h1 h2 (bytes_ext h3)
  · rintro rfl
    exact ⟨⟨rfl, rfl⟩, rfl⟩

set_option maxHeartbeats 400000 in
theorem eqTrmCell_any (c d : C) (w : World) :
    Calls Try.prog 65 #[.agg #[.int .i64 c.k, .int .i64 c.n, .string c.s], .agg #[.int .i64 d.k, .int .i64 d.n, .string d.s]] w fun e w' => e = .returned (.bool (same c d)) ∧ Below w.heap.size w w' := by
  by_cases h1 : c.k = d.k
  · have hb1 : (c.k != d.k) = false := by simpa using h1
    by_cases h2 : c.n = d.n
    · have hb2 : (c.n != d.n) = false := by simpa using h2
      by_cases h3 : c.s.data.toList = d.s.data.toList
      · have HE : Hid (same c d = true) := by show same c d = true; simp [same, h1, h2, h3]
        have hb3 : (c.s.toList == d.s.toList) = true := by rw [ByteArray.toList_eq, ByteArray.toList_eq]; simpa using h3
        clear h1 h2 h3
        go_enter Try.func65, Try.ntmps65
        go_wp2
        go_ret
        exact ⟨ret_bool (unhide HE).symm, below2 _ _ _⟩
      · have HE : Hid (same c d = false) := by show same c d = false; simp only [same, Bool.and_eq_false_iff, beq_eq_false_iff_ne]; exact .inr h3
        have hb3 : (c.s.toList == d.s.toList) = false := by rw [ByteArray.toList_eq, ByteArray.toList_eq]; simpa using h3
        clear h1 h2 h3
        go_enter Try.func65, Try.ntmps65
        go_wp2
        go_ret
        exact ⟨ret_bool (unhide HE).symm, below2 _ _ _⟩
    · have HE : Hid (same c d = false) := by show same c d = false; simp [same, h2]
      have hb2 : (c.n != d.n) = true := by simpa using h2
      clear h1 h2
      go_enter Try.func65, Try.ntmps65
      go_wp2
      go_ret
      exact ⟨ret_bool (unhide HE).symm, below2 _ _ _⟩
  · have HE : Hid (same c d = false) := by show same c d = false; simp [same, h1]
    have hb1 : (c.k != d.k) = true := by simpa using h1
    clear h1
    go_enter Try.func65, Try.ntmps65
    go_wp2
    go_ret
    exact ⟨ret_bool (unhide HE).symm, below2 _ _ _⟩

theorem Try.infoCell : (Try.prog.info? 98).map (fun i => (i.zero, i.size, i.bytes)) = some (some (.agg #[.int .i64 0, .int .i64 0, .string ByteArray.empty]), 3, 32) := by kernel_rfl

/-- What a round of toTrmCellS leaves. -/
theorem own_kept {w w1 : World} {base e size n : Nat} {v : Value} {xs : List Value} (h : w.ownsRow base e size v n xs) (hb : Below w.heap.size w w1) : w1.ownsRow base e size v n xs := by
  refine h.kept (row := none) ⟨hb.os, hb.tape, hb.output, hb.size, fun j hj _ => hb.block j hj⟩ ?_
  cases v.ownBlock with
  | none => exact .inl rfl
  | some k => exact .inr (by simp)

theorem own_cells {w : World} {base e g n k : Nat} {xs : List Value} (h : w.ownsRow base e 3 (.slice (some ⟨g, 0, none⟩) n n) n xs) (hk : k < n) :
    ∃ a b c, w.cell? ⟨g, k * 3, none⟩ = some a ∧ w.cell? ⟨g, k * 3 + 1, none⟩ = some b ∧ w.cell? ⟨g, k * 3 + 2, none⟩ = some c := by
  have hl := h.1
  refine ⟨xs[k * 3]'(by omega), xs[k * 3 + 1]'(by omega), xs[k * 3 + 2]'(by omega), ?_, ?_, ?_⟩
  · rw [h.cellAt _ (by omega)]; exact List.getElem?_eq_getElem _
  · rw [h.cellAt _ (by omega)]; exact List.getElem?_eq_getElem _
  · rw [h.cellAt _ (by omega)]; exact List.getElem?_eq_getElem _

theorem to_round {w wr w1 : World} {g n k : Nat} {xs : List Value} {t : List C} {c : C} (hk : k < t.length) (hc : c = t[k]) (hn : n = t.length)
    (hown : wr.ownsRow w.heap.size 98 3 (.slice (some ⟨g, 0, none⟩) n n) n xs) (hx : xs.take (k * 3) = flat (t.take k)) (hb1 : Below wr.heap.size wr w1) (hB : Below w.heap.size w wr) :
    ∃ xs', (((w1.setCell ⟨g, k * 3, none⟩ (.int .i64 c.k)).setCell ⟨g, k * 3 + 1, none⟩ (.int .i64 c.n)).setCell ⟨g, k * 3 + 2, none⟩ (.string c.s)).ownsRow w.heap.size 98 3 (.slice (some ⟨g, 0, none⟩) n n) n xs' ∧
      xs'.take ((k + 1) * 3) = flat (t.take (k + 1)) ∧ Below w.heap.size w (((w1.setCell ⟨g, k * 3, none⟩ (.int .i64 c.k)).setCell ⟨g, k * 3 + 1, none⟩ (.int .i64 c.n)).setCell ⟨g, k * 3 + 2, none⟩ (.string c.s)) := by
  have hgb : w.heap.size ≤ g ∧ g < wr.heap.size := hown.lt g rfl
  have hown1 := own_kept hown hb1
  refine ⟨_, (((hown1.stored (k * 3) (.int .i64 c.k)).1.stored (k * 3 + 1) (.int .i64 c.n)).1.stored (k * 3 + 2) (.string c.s)).1, ?_, ?_⟩
  · have hl : xs.length = n * 3 := hown.1
    rw [set3_take xs k _ _ _ (by omega), hx, List.take_succ_eq_append_getElem hk, flat_append, ← hc]
    rfl
  · exact (((bstep hB hb1).setCell (p := ⟨g, _, none⟩) hgb.1 _).setCell (p := ⟨g, _, none⟩) hgb.1 _).setCell (p := ⟨g, _, none⟩) hgb.1 _

set_option maxHeartbeats 1000000 in
theorem toTrmCellS_some (b off cap : Nat) (t : List C) (w : World) (hm : t.length ≤ 1048576) (hA : At w b off t) :
    Calls Try.prog 18 #[.slice (some ⟨b, off, none⟩) t.length cap] w fun e w' => e = .returned (.slice (some ⟨w.heap.size, 0, none⟩) t.length t.length) ∧ w'.ownsRow w.heap.size 98 3 (.slice (some ⟨w.heap.size, 0, none⟩) t.length t.length) t.length (flat t) ∧ Below w.heap.size w w' := by
  obtain ⟨i0, hi, hz0, hz1, hz2⟩ := info_parts Try.infoCell
  have hbytes : i0.bytes * t.length ≤ 281474976710656 := by rw [hz2]; omega
  go_enter Try.func18, Try.ntmps18
  go_wp2_with (at_make; refine wpList_make_full _ rfl _ _ 41 rfl w.heap.size 98 i0 _ 3 Try.underlying41 hi hz0 hz1 .i64 .i64 _ _ t.length rfl rfl rfl rfl hbytes (by unfold maxLen; omega) (Nat.le_refl _) ?_; intro w0 hown0 hgr0)
  have hB0 : Below w.heap.size w w0 := (Below.refl _ _).grown hgr0 (Nat.le_refl _) (fun k e => by cases e)
  go_loopw [4] (fun i wr => ∃ (k : Nat) (xs : List Value), k ≤ t.length ∧ i = .int .i64 k ∧ wr.ownsRow w.heap.size 98 3 (.slice (some ⟨w.heap.size, 0, none⟩) t.length t.length) t.length xs ∧ xs.take (k * 3) = flat (t.take k) ∧ Below w.heap.size w wr) (fun i _ => t.length - (intOf i).toNat)
  case atStart => exact ⟨0, _, Nat.zero_le _, rfl, hown0, by simp [flat], hB0⟩
  case round =>
    obtain ⟨k, xs, hk, rfl, hown, hx, hB⟩ := hrel
    have HX := hide hx
    clear hx
    by_cases hlt : k < t.length
    · obtain ⟨c0, c1, c2⟩ := (hA.below hB) k hlt
      obtain ⟨c, hc⟩ : ∃ c, c = t[k] := ⟨_, rfl⟩
      rw [← hc] at c0 c1 c2
      have HC := hide hc
      clear hc
      go_wp2_with fail
      refine (toTrmCell_any c _).mono ?_
      rintro e w1 ⟨rfl, hb1⟩
      clear c0 c1 c2
      obtain ⟨u0, u1, u2, d0, d1, d2⟩ := own_cells (own_kept hown hb1) hlt
      have f0 := (own_kept hown hb1).frozenAt (k * 3)
      have f1 := (own_kept hown hb1).frozenAt (k * 3 + 1)
      have f2 := (own_kept hown hb1).frozenAt (k * 3 + 2)
      have R := to_round hlt (unhide HC) rfl hown (unhide HX) hb1 hB
      have HR := hide R
      clear R hown
      go_wp2
      go_roundw
      case rel =>
        obtain ⟨xs', r1, r2, r3⟩ := unhide HR
        exact ⟨k + 1, xs', by omega, by go_num, r1, r2, r3⟩
      case measure => simp [intOf]; omega
    · go_wp2
      go_ret
      refine ⟨rfl, ?_, hB⟩
      have hl := hown.1
      have := unhide HX
      rw [List.take_of_length_le (by omega), List.take_of_length_le (by omega)] at this
      rw [← this]
      exact hown

set_option maxHeartbeats 1000000 in
theorem toTrmCellS_none (ao : Option Addr) (cap : Nat) (w : World) :
    Calls Try.prog 18 #[.slice ao 0 cap] w fun e w' => e = .returned (.slice (some ⟨w.heap.size, 0, none⟩) 0 0) ∧ w'.ownsRow w.heap.size 98 3 (.slice (some ⟨w.heap.size, 0, none⟩) 0 0) 0 (flat []) ∧ Below w.heap.size w w' := by
  obtain ⟨i0, hi, hz0, hz1, hz2⟩ := info_parts Try.infoCell
  go_enter Try.func18, Try.ntmps18
  go_wp2_with (at_make; refine wpList_make_full _ rfl _ _ 41 rfl w.heap.size 98 i0 _ 3 Try.underlying41 hi hz0 hz1 .i64 .i64 _ _ 0 rfl rfl rfl rfl (by simp) (by unfold maxLen; omega) (Nat.le_refl _) ?_; intro w0 hown0 hgr0)
  have hB0 : Below w.heap.size w w0 := (Below.refl _ _).grown hgr0 (Nat.le_refl _) (fun k e => by cases e)
  refine wp_loop_rounds 1 ?_
  rw [rounds_succ]
  go_wp2
  go_ret
  refine ⟨rfl, ?_, hB0⟩
  have hl := hown0.1
  obtain ⟨xs, hxs⟩ : ∃ xs, xs = (madeCells (Value.agg #[.int .i64 0, .int .i64 0, .string ByteArray.empty]).cells (0 * 3)).toList := ⟨_, rfl⟩
  rw [← hxs] at hown0 hl
  have hx0 : xs = [] := List.length_eq_zero_iff.1 (by omega)
  rw [hx0] at hown0
  exact hown0

/-- Places copied into new memory. -/
theorem toTrmCellS_any (ao : Option Addr) (cap : Nat) (t : List C) (w : World) (hm : t.length ≤ 1048576) (hA : Row w ao t) :
    Calls Try.prog 18 #[.slice ao t.length cap] w fun e w' => e = .returned (.slice (some ⟨w.heap.size, 0, none⟩) t.length t.length) ∧ w'.ownsRow w.heap.size 98 3 (.slice (some ⟨w.heap.size, 0, none⟩) t.length t.length) t.length (flat t) ∧ Below w.heap.size w w' := by
  rcases hA with rfl | ⟨b, off, rfl, hA⟩
  · exact toTrmCellS_none ao cap w
  · exact toTrmCellS_some b off cap t w hm hA

/-- Lists of places are the same. -/
def sameS (t u : List C) : Bool := decide (t.length = u.length) && (t.zip u).all fun p => same p.1 p.2

theorem sameS_iff : ∀ (t u : List C), sameS t u = true ↔ t = u
  | [], [] => by simp [sameS]
  | [], d :: u => by simp [sameS]
  | c :: t, [] => by simp [sameS]
  | c :: t, d :: u => by
      have ih := sameS_iff t u
      simp only [sameS, Bool.and_eq_true, decide_eq_true_eq] at ih
      simp only [sameS, List.length_cons, Bool.and_eq_true, decide_eq_true_eq, List.zip_cons_cons, List.all_cons, same_iff, List.cons.injEq]
      constructor
      · rintro ⟨h1, h2, h3⟩
        exact ⟨h2, ih.1 ⟨by omega, h3⟩⟩
      · rintro ⟨rfl, h⟩
        obtain ⟨h1, h3⟩ := ih.2 h
        exact ⟨by omega, rfl, h3⟩

theorem sameS_no {t u : List C} (h : t ≠ u) : sameS t u = false := by
  cases e : sameS t u with
  | false => rfl
  | true => exact absurd ((sameS_iff t u).1 e) h
theorem sameS_yes {t u : List C} (h : t = u) : sameS t u = true := (sameS_iff t u).2 h

set_option maxHeartbeats 1000000 in
theorem eqTrmCellS_some (b off cap b' off' cap' : Nat) (t u : List C) (w : World) (hm : t.length ≤ maxLen) (hA : At w b off t) (hU : At w b' off' u) (hl : t.length = u.length) :
    Calls Try.prog 21 #[.slice (some ⟨b, off, none⟩) t.length cap, .slice (some ⟨b', off', none⟩) u.length cap'] w fun e w' => e = .returned (.bool (sameS t u)) ∧ Below w.heap.size w w' := by
  unfold maxLen at hm
  have hne : ((t.length : Int) != (u.length : Int)) = false := by simp; omega
  have hul : u.length ≤ 2 ^ 63 - 1 := by omega
  have HL := hide hl
  clear hl
  go_enter Try.func21, Try.ntmps21
  go_wp2
  go_loopw [5] (fun i wr => ∃ (k : Nat), k ≤ t.length ∧ i = .int .i64 k ∧ t.take k = u.take k ∧ Below w.heap.size w wr) (fun i _ => t.length - (intOf i).toNat)
  case atStart => exact ⟨0, Nat.zero_le _, rfl, rfl, Below.refl _ _⟩
  case round =>
    obtain ⟨k, hk, rfl, hx, hB⟩ := hrel
    have HX := hide hx
    clear hx
    by_cases hlt : k < t.length
    · have hlu : k < u.length := by rw [← unhide HL]; exact hlt
      obtain ⟨c0, c1, c2⟩ := (hA.below hB) k hlt
      obtain ⟨d0, d1, d2⟩ := (hU.below hB) k hlu
      obtain ⟨c, hc⟩ : ∃ c, c = t[k] := ⟨_, rfl⟩
      rw [← hc] at c0 c1 c2
      have HC := hide hc
      clear hc
      obtain ⟨d, hd⟩ : ∃ d, d = u[k] := ⟨_, rfl⟩
      rw [← hd] at d0 d1 d2
      have HD := hide hd
      clear hd
      cases hsm : same c d with
      | false =>
        go_wp2
        go_region_with (go_at_call 65; refine (eqTrmCell_any c d _).mono ?_; rintro e w1 ⟨rfl, hb1⟩)
        all_goals go_wp2
        all_goals go_ret
        all_goals refine ⟨ret_bool (sameS_no (fun h => ?_)).symm, ?_⟩
        all_goals first | exact bstep hB.drew (by assumption) | skip
        all_goals (have e : c = d := by rw [unhide HC, unhide HD]; simp [h])
        all_goals (rw [(same_iff c d).2 e] at hsm; cases hsm)
      | true =>
        go_wp2
        go_region_with (go_at_call 65; refine (eqTrmCell_any c d _).mono ?_; rintro e w1 ⟨rfl, hb1⟩)
        all_goals go_wp2
        all_goals go_roundw
        all_goals first | exact ⟨k + 1, by omega, by go_num, by rw [List.take_succ_eq_append_getElem hlt, List.take_succ_eq_append_getElem hlu, unhide HX, ← unhide HC, ← unhide HD, (same_iff c d).1 hsm], bstep hB.drew (by assumption)⟩ | (simp [intOf]; omega)
    · go_wp2
      go_ret
      refine ⟨ret_bool (sameS_yes ?_).symm, hB⟩
      have := unhide HX
      rw [List.take_of_length_le (by omega), List.take_of_length_le (by rw [← unhide HL]; omega)] at this
      exact this
end Go.Proofs.Ytkedckmpjedjoaa
