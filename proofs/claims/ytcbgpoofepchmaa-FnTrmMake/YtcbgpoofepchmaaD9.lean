/- What is drawn: a name and rows of places (DrawTrmMake). -/
import Derived.Test.YtcbgpoofepchmaaD8
import Derived.Test.YtcbgpoofepchmaaL6
namespace Go.Proofs.Ytcbgpoofepchmaa
open Go.RowKit
set_option linter.unusedVariables false
set_option linter.unusedSimpArgs false

theorem RowS.grown {w w' : World} {base R : Nat} {v : Value} {ts : List (List C)} (h : RowS w base v ts) (hg : w.grownBy w' (some R)) (hR : R < base) : RowS w' base v ts := by
  obtain ⟨vs, h1, h2⟩ := h
  refine ⟨vs, own_apart h1 hg (fun k e => .inl (by cases e; exact hR)), fun i hi => ?_⟩
  obtain ⟨u, e, ho⟩ := h2 i hi
  exact ⟨u, e, own_apart ho hg (fun k e => .inl (by cases e; exact hR))⟩

theorem RowS.alloc {w : World} {base : Nat} {v : Value} {ts : List (List C)} (h : RowS w base v ts) (o : Obj) : RowS (w.alloc o) base v ts := h.below (cell_below _ _)

/-- A name and rows of places that a law draws from bytes. -/
def DrewM (w : World) (e : Ending) (w' : World) : Prop :=
  ∃ s ga rc ts, e = .returned (.tuple #[.string s, .slice (some ⟨ga, 0, none⟩) ts.length rc]) ∧ RowS w' w.heap.size (.slice (some ⟨ga, 0, none⟩) ts.length rc) ts ∧ ts.length ≤ 4 ∧ (∀ t ∈ ts, t.length ≤ 41 ∧ ∀ c ∈ t, Dc c) ∧ s.size ≤ 9 ∧ Below w.heap.size w w'

theorem RowS.base {w : World} {base base' : Nat} {v : Value} {ts : List (List C)} (h : RowS w base v ts) (hb : base' ≤ base) : RowS w base' v ts := by
  obtain ⟨vs, h1, h2⟩ := h
  refine ⟨vs, ?_, fun i hi => ?_⟩
  · refine ⟨h1.1, ?_⟩
    rcases h1.2 with h | ⟨g, cap, cur, e, hg, r⟩
    · exact .inl h
    · exact .inr ⟨g, cap, cur, e, Nat.le_trans hb hg, r⟩
  · obtain ⟨u, e, ho⟩ := h2 i hi
    exact ⟨u, e, ho.base hb⟩

theorem num8 (W : World) (q : Nat) (hq : q < 8) : ∃ x : Nat, x < 6 ∧ (W.alloc (.cells #[.int .i64 0, .int .i64 0, .int .i64 0, .int .i64 1, .int .i64 2, .int .i64 3, .int .i64 4, .int .i64 5] 3)).cell? ⟨W.heap.size, q, none⟩ = some (.int .i64 (x : Int)) := by
  rcases (show q = 0 ∨ q = 1 ∨ q = 2 ∨ q = 3 ∨ q = 4 ∨ q = 5 ∨ q = 6 ∨ q = 7 by omega) with rfl | rfl | rfl | rfl | rfl | rfl | rfl | rfl
  · exact ⟨0, by omega, by simp⟩
  · exact ⟨0, by omega, by simp⟩
  · exact ⟨0, by omega, by simp⟩
  · exact ⟨1, by omega, by simp⟩
  · exact ⟨2, by omega, by simp⟩
  · exact ⟨3, by omega, by simp⟩
  · exact ⟨4, by omega, by simp⟩
  · exact ⟨5, by omega, by simp⟩

theorem name6 (W : World) (x : Nat) (hx : x < 6) : ∃ s : ByteArray, s.size ≤ 9 ∧ (W.alloc (.cells #[.string (ByteArray.mk #[102]), .string (ByteArray.mk #[103]), .string (ByteArray.mk #[]), .string (ByteArray.mk #[65]), .string (ByteArray.mk #[97, 98, 99, 100, 101, 102, 103, 104]), .string (ByteArray.mk #[97, 98, 99, 100, 101, 102, 103, 104, 105])] 9)).cell? ⟨W.heap.size, x, none⟩ = some (.string s) := by
  rcases (show x = 0 ∨ x = 1 ∨ x = 2 ∨ x = 3 ∨ x = 4 ∨ x = 5 by omega) with rfl | rfl | rfl | rfl | rfl | rfl
  · exact ⟨ByteArray.mk #[102], by decide, by simp⟩
  · exact ⟨ByteArray.mk #[103], by decide, by simp⟩
  · exact ⟨ByteArray.mk #[], by decide, by simp⟩
  · exact ⟨ByteArray.mk #[65], by decide, by simp⟩
  · exact ⟨ByteArray.mk #[97, 98, 99, 100, 101, 102, 103, 104], by decide, by simp⟩
  · exact ⟨ByteArray.mk #[97, 98, 99, 100, 101, 102, 103, 104, 105], by decide, by simp⟩

set_option maxRecDepth 100000 in
set_option maxHeartbeats 4000000 in
theorem drawTrmMake_any (ao : Option Addr) (len cap : Nat) (z : Nat → Int) (w : World) (h : Bin w ao len cap z) :
    Calls Try.prog 26 #[.slice ao len cap] w fun e w' => DrewM w e w' := by
  obtain ⟨i0, hi, hz0, hz1, hz2⟩ := info_parts (show (Try.prog.info? 23).map (fun i => (i.zero, i.size, i.bytes)) = some (some (.slice none 0 0), 1, 24) by kernel_rfl)
  go_enter Try.func26, Try.ntmps26
  go_wp2_with fail
  refine (open_any ao len cap z _ h).mono ?_
  rintro e w1 ⟨rfl, hR1, hb1⟩
  have hlt := hR1.lt
  go_wp2_with (go_at_call 55; refine (pick_any w.heap.size 0 5 _ (by omega) (by omega) (by omega) (hR1.alloc _)).mono ?_; rintro e w2 ⟨r, rfl, hr0, hr1, hR2, hG2⟩)
  obtain ⟨j0, rfl⟩ := Int.eq_ofNat_of_zero_le hr0
  have hS0 : RowS w2 w1.heap.size (.slice (some ⟨w1.heap.size, 0, none⟩) 0 0) [] :=
    RowS.grown ⟨[], World.ownsRow_made w1 #[] 0 (Nat.le_refl _) (by simp [maxLen]) rfl, by simp⟩ hG2 hlt
  have hb2 : Below w.heap.size w w2 := (hb1.alloc hb1.size _).grown hG2 (by have := hb1.size; simp; omega) (fun k e => by cases e; exact Nat.le_refl _)
  have hsz2 : w1.heap.size ≤ w2.heap.size := by have := hG2.size; simp at this; omega
  go_loopw [5, 6] (fun av i wr => ∃ (j p ga rc : Nat) (ts : List (List C)), i = .int .i64 j ∧ ts.length + j ≤ 4 ∧ av = .slice (some ⟨ga, 0, none⟩) ts.length rc ∧ RowS wr w1.heap.size av ts ∧ (∀ t ∈ ts, t.length ≤ 41 ∧ ∀ c ∈ t, Dc c) ∧ Rd wr w.heap.size p ∧ p ≤ 1 + 300 * ts.length ∧ Below w.heap.size w wr ∧ w1.heap.size ≤ wr.heap.size) (fun _ i _ => (intOf i).toNat)
  case atStart => exact ⟨j0, _, _, _, [], rfl, by simp; omega, rfl, hS0, by simp, hR2, by simp, hb2, hsz2⟩
  case round =>
    obtain ⟨j, p, ga, rc, ts, rfl, htj, rfl, hRS, hD, hRd, hp, hB, hsw⟩ := hrel
    have HD := hide hD
    have HRS := hide hRS
    clear hD hRS
    by_cases hj : 0 < j
    · go_wp2_with fail
      refine (termOr_any w.heap.size p 14 _ (by omega) (by omega) (by omega) hRd).mono ?_
      rintro e w3 ⟨v, t, p3, rfl, hO3, _, hl3, hDc, hR3, hp3, hG3⟩
      have HDc := hide hDc
      clear hDc
      have hRS3 := (unhide HRS).grown hG3 hlt
      obtain ⟨vs, hr1, hr2⟩ := hRS3
      have HR2 := hide hr2
      clear hr2
      have hOb := OwnC.base hO3 hsw
      have HOb := hide hOb
      obtain ⟨a3, c3, rfl, _⟩ := hO3.shape
      have hs3 := hG3.size
      go_wp2_with (at_builtin; refine wpList_append_own _ rfl _ _ 32 rfl w1.heap.size 23 i0 _ 1 24 Try.underlying32 hi hz0 hz1 hz2 rfl (by decide) _ _ _ rfl (World.ownsRow.alloc hr1 _) ⟨w3.heap.size, 0, none⟩ 1 1 [.slice a3 t.length c3] rfl rfl (cell_one_new _ _ _) ?x2 ?x3 ?x4 ?x5 ?_)
      case x2 => intro u hu; simp at hu; rw [hu]; rfl
      case x3 => unfold maxLen; omega
      case x4 => omega
      case x5 => simp; omega
      intro v7 w7 hown7 hgrow7 _
      obtain ⟨g7, rc7, rfl⟩ := row_some hown7 (by omega)
      have hR7 := RowS.app hr1 (unhide HR2) (unhide HOb) hown7 hgrow7
      have hrw : ∀ k, (Value.slice (some (⟨ga, 0, none⟩ : Addr)) ts.length rc).ownBlock = some k → w1.heap.size ≤ k := fun k e => by
        rcases hr1.2 with ⟨e1, _⟩ | ⟨g, cap', cur, e1, hge, _⟩
        · cases e1
        · rw [e1] at e
          obtain rfl : g = k := by simpa [Value.ownBlock] using e
          exact hge
      have hRd7 := (hR3.alloc (.cells #[.slice a3 t.length c3] 23)).grown hgrow7 (fun k e => by have := hrw k e; omega)
      have hB3 : Below w.heap.size w w3 := hB.grown hG3 hB.size (fun k e => by cases e; exact Nat.le_refl _)
      have hB7 : Below w.heap.size w w7 := (hB3.alloc hB3.size _).grown hgrow7 (by have := hB3.size; simp; omega) (fun k e => by have := hrw k e; omega)
      have hs7 := hgrow7.size
      simp at hs7
      clear hown7 hgrow7 hr1
      go_wp2
      go_roundw
      case rel =>
        refine ⟨j - 1, p3, g7, rc7, ts ++ [t], by go_num, by simp; omega, by simp, hR7, fun q hq => ?_, hRd7, by simp; omega, hB7, by omega⟩
        rcases List.mem_append.1 hq with hq | hq
        · exact unhide HD q hq
        · simp at hq; rw [hq]; exact ⟨hl3, unhide HDc⟩
      case measure => simp [intOf]; omega
    · go_wp2_with fail
      refine (pick_any w.heap.size p 8 _ (by omega) (by omega) (by omega) ((hRd.alloc _).alloc _)).mono ?_
      rintro e w3 ⟨r, rfl, hq0, hq1, hR3, hG3⟩
      obtain ⟨q, rfl⟩ := Int.eq_ofNat_of_zero_le hq0
      have hq8 : q < 8 := by omega
      have hRS3 := RowS.base ((((unhide HRS).alloc _).alloc _).grown hG3 hlt) hb1.size
      have hB3 : Below w.heap.size w w3 := ((hB.alloc hB.size _).alloc (by have := hB.size; simp; omega) _).grown hG3 (by have := hB.size; simp; omega) (fun k e => by cases e; exact Nat.le_refl _)
      obtain ⟨x, hx6, hcx⟩ := num8 (wr.alloc (.cells #[.string (ByteArray.mk #[102]), .string (ByteArray.mk #[103]), .string (ByteArray.mk #[]), .string (ByteArray.mk #[65]), .string (ByteArray.mk #[97, 98, 99, 100, 101, 102, 103, 104]), .string (ByteArray.mk #[97, 98, 99, 100, 101, 102, 103, 104, 105])] 9)) q hq8
      obtain ⟨sn, hsn, hcs⟩ := name6 wr x hx6
      have hn1 := hG3.cell hcx (by simp; omega)
      have hn2 := hG3.cell (cell_keep hcs _) (by simp; omega)
      rw [World.size_alloc] at hn1
      go_wp2
      go_ret2
      exact ⟨sn, ga, rc, ts, rfl, hRS3, by omega, unhide HD, hsn, hB3⟩
end Go.Proofs.Ytcbgpoofepchmaa
