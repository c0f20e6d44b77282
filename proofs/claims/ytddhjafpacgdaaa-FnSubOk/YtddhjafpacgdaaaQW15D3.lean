import Derived.Test.YtddhjafpacgdaaaQW10W13SB1
import Derived.Test.YtddhjafpacgdaaaQD1D2
/- TrmCanon: the plain list; the walks of the model's l1Place and TrmCanon, and of the program's TrmCanon. -/
namespace Go.Proofs.Ytddhjafpacgdaaa
open Go.RowKit Go.Maps
set_option linter.unusedVariables false
set_option linter.unusedSimpArgs false

/-- Where a number stands first among some; -1, if it does not. -/
def placeV : List Int → Int → Int
  | [], _ => -1
  | a :: r, x => if a = x then 0 else if placeV r x = -1 then -1 else placeV r x + 1

theorem placeV_ge (z : List Int) (x : Int) : -1 ≤ placeV z x := by
  induction z with
  | nil => simp [placeV]
  | cons a r ih => simp only [placeV]; split; omega; split <;> omega

theorem placeV_at : ∀ (z : List Int) (k : Nat) (h : k < z.length), (∀ j, (hj : j < z.length) → j < k → z[j] ≠ z[k]) → placeV z z[k] = k
  | a :: r, 0, h, _ => by simp [placeV]
  | a :: r, k + 1, h, hn => by
      have ih := placeV_at r k (by simpa using h) (fun j hj hjk => hn (j + 1) (by simp; omega) (by omega))
      have h0 : a ≠ r[k]'(by simpa using h) := hn 0 (by simp) (by omega)
      simp only [placeV, List.getElem_cons_succ, if_neg h0, ih]
      rw [if_neg (by omega)]; omega
theorem placeV_no : ∀ (z : List Int) (x : Int), x ∉ z → placeV z x = -1
  | [], x, _ => rfl
  | a :: r, x, h => by
      have ih := placeV_no r x (fun hm => h (List.mem_cons_of_mem _ hm))
      have h0 : a ≠ x := fun e => h (by simp [e])
      simp [placeV, h0, ih]

theorem placeV_first (z : List Int) (x : Int) (k : Nat) (h : k < z.length) (hx : z[k] = x) (hn : x ∉ z.take k) : placeV z x = k := by
  subst hx
  refine placeV_at z k h (fun j hj hjk e => hn ?_)
  rw [← e, List.mem_take_iff_getElem]
  exact ⟨j, by omega, rfl⟩

def canonC (z : List Int) (c : C) : C := if c.k = 1 then ⟨c.k, placeV z c.n, c.s⟩ else c
/-- Places with their variables numbered as they come first. -/
def canonOf (t : List C) : List C := t.map (canonC (freeOf t))

theorem canonC_var {z : List Int} {c : C} (h : c.k = 1) : canonC z c = ⟨c.k, placeV z c.n, c.s⟩ := by simp [canonC, h]
theorem canonC_other {z : List Int} {c : C} (h : c.k ≠ 1) : canonC z c = c := by simp [canonC, h]
theorem canonOf_length (t : List C) : (canonOf t).length = t.length := by simp [canonOf]

theorem map_step {t : List C} {k : Nat} (z : List Int) (h : k < t.length) : (t.take (k + 1)).map (canonC z) = (t.take k).map (canonC z) ++ [canonC z t[k]] := by
  rw [List.take_succ_eq_append_getElem h, List.map_append]; rfl

theorem mem_addV {acc : List Int} {c : C} {x : Int} : x ∈ addV acc c ↔ x ∈ acc ∨ (c.k = 1 ∧ x = c.n) := by
  unfold addV
  by_cases h : c.k = 1
  · rw [if_pos h]
    by_cases hn : c.n ∈ acc
    · rw [if_pos hn]
      constructor
      · exact .inl
      · rintro (h' | ⟨_, rfl⟩)
        · exact h'
        · exact hn
    · rw [if_neg hn]; simp [h]
  · rw [if_neg h]; simp [h]
theorem mem_fold : ∀ (t : List C) (acc : List Int) (x : Int), x ∈ t.foldl addV acc ↔ x ∈ acc ∨ ∃ c ∈ t, c.k = 1 ∧ x = c.n
  | [], acc, x => by simp
  | c :: t, acc, x => by
      rw [List.foldl_cons, mem_fold t, mem_addV]
      simp only [List.mem_cons, exists_eq_or_imp]
      exact or_assoc
theorem mem_freeOf (t : List C) (x : Int) : x ∈ freeOf t ↔ ∃ c ∈ t, c.k = 1 ∧ x = c.n := by
  unfold freeOf; rw [mem_fold]; simp

set_option maxHeartbeats 1000000 in
theorem l1Place_some (b off cap : Nat) (z : List Int) (n : Int) (w : World) (hm : z.length ≤ maxLen) (hA : AtI w b off z) :
    Calls Try.prog 64 #[.slice (some ⟨b, off, none⟩) z.length cap, .int .i64 n] w fun e w' => e = .returned (.int .i64 (placeV z n)) ∧ w' = w := by
  unfold maxLen at hm
  go_enter Try.func64, Try.ntmps64
  go_wp2
  go_loop [5] (fun i => ∃ (k : Nat), k ≤ z.length ∧ i = .int .i64 k ∧ n ∉ z.take k) (fun i => z.length - (intOf i).toNat)
  case atStart => exact ⟨0, Nat.zero_le _, rfl, by simp⟩
  case round =>
    obtain ⟨k, hk, rfl, hx⟩ := hrel
    have HX := hide hx
    clear hx
    by_cases hlt : k < z.length
    · have c0 := hA k hlt
      obtain ⟨c, hc⟩ : ∃ c, c = z[k] := ⟨_, rfl⟩
      rw [← hc] at c0
      have HC := hide hc
      clear hc
      by_cases he : c = n
      · have hb : (c == n) = true := by simpa using he
        have HE := hide he
        clear he
        go_wp2
        go_ret
        exact ⟨ret_int (placeV_first z n k hlt (by rw [← unhide HC, unhide HE]) (unhide HX)).symm, rfl⟩
      · have hb : (c == n) = false := by simpa using he
        have HE := hide he
        clear he
        go_wp2
        go_round
        case rel =>
          refine ⟨k + 1, by omega, by go_num, ?_⟩
          rw [List.take_succ_eq_append_getElem hlt, List.mem_append]
          rintro (h | h)
          · exact unhide HX h
          · simp at h
            exact unhide HE (by rw [unhide HC, h])
        case measure => simp [intOf]; omega
    · go_wp2
      go_ret
      refine ⟨ret_int ?_, rfl⟩
      have := unhide HX
      rw [List.take_of_length_le (by omega)] at this
      rw [placeV_no z n this]

set_option maxHeartbeats 400000 in
theorem l1Place_none (ao : Option Addr) (cap : Nat) (n : Int) (w : World) :
    Calls Try.prog 64 #[.slice ao 0 cap, .int .i64 n] w fun e w' => e = .returned (.int .i64 (-1)) ∧ w' = w := by
  go_enter Try.func64, Try.ntmps64
  go_wp2
  refine wp_loop_rounds 1 ?_
  rw [rounds_succ]
  go_wp2
  go_ret
  exact ⟨rfl, rfl⟩

theorem l1Place_any (ao : Option Addr) (cap : Nat) (z : List Int) (n : Int) (w : World) (hm : z.length ≤ maxLen) (hA : RowI w ao z) :
    Calls Try.prog 64 #[.slice ao z.length cap, .int .i64 n] w fun e w' => e = .returned (.int .i64 (placeV z n)) ∧ w' = w := by
  rcases hA with rfl | ⟨b, off, rfl, hA⟩
  · exact l1Place_none ao cap n w
  · exact l1Place_some b off cap z n w hm hA

/-- A place that was just laid in a block of its own. -/
theorem cell_three_new (w : World) (x y z : Value) (t : TypeId) : ∀ j u, [x, y, z][j]? = some u → (w.alloc (.cells #[x, y, z] t)).cell? ((⟨w.heap.size, 0, none⟩ : Addr).add j) = some u := by
  intro j u hj
  match j, hj with
  | 0, hj => simp at hj; subst hj; simp [Addr.add]
  | 1, hj => simp at hj; subst hj; simp [Addr.add]
  | 2, hj => simp at hj; subst hj; simp [Addr.add]

/-- What an append of one place leaves. -/
theorem app_cell {w wr w1 : World} {base : Nat} {v v' : Value} {t : List C} {c : C} (hB : Below w.heap.size w wr) (hb : w.heap.size ≤ base) (hown : OwnC wr base v t)
    (hown' : w1.ownsRow base 36 3 v' (t.length + 1) (flat t ++ [.int .i64 c.k, .int .i64 c.n, .string c.s])) (hgrow : (wr.alloc (.cells #[.int .i64 c.k, .int .i64 c.n, .string c.s] 36)).grownBy w1 v.ownBlock) :
    OwnC w1 base v' (t ++ [c]) ∧ Below w.heap.size w w1 := by
  constructor
  · unfold OwnC
    rw [show (t ++ [c]).length = t.length + 1 by simp, flat_append]
    exact hown'
  · exact (hB.alloc hB.size _).grown hgrow (by have := hB.size; simp; omega) (fun k e => Nat.le_trans hb (hown.lt k e).1)

theorem OwnC.base {w : World} {base base' : Nat} {v : Value} {t : List C} (h : OwnC w base v t) (hb : base' ≤ base) : OwnC w base' v t := by
  refine ⟨h.1, ?_⟩
  rcases h.2 with h2 | ⟨g, cap, cur, e, hg, r⟩
  · exact .inl h2
  · exact .inr ⟨g, cap, cur, e, Nat.le_trans hb hg, r⟩

theorem canon_done {w : World} {base base' : Nat} {v : Value} {t : List C} {z : List Int} (h : OwnC w base v (t.map (canonC z))) (hz : z = freeOf t) (hb : base' ≤ base) : OwnC w base' v (canonOf t) := by
  subst hz
  exact h.base hb

set_option maxHeartbeats 2000000 in
theorem specTrmCanon_some (b off cap : Nat) (t : List C) (w : World) (hm : t.length ≤ 1048576) (hA : At w b off t) :
    Calls Try.prog 27 #[.slice (some ⟨b, off, none⟩) t.length cap] w fun e w' => ∃ v, e = .returned v ∧ OwnC w' w.heap.size v (canonOf t) ∧ Below w.heap.size w w' := by
  obtain ⟨i0, hi, hz0, hz1, hz2⟩ := info_parts Try.infoCell
  have hfl := freeOf_len t
  go_enter Try.func27, Try.ntmps27
  go_wp2_with fail
  refine (specTrmFree_any _ _ t _ hm (.inr ⟨b, off, rfl, hA⟩)).mono ?_
  rintro e w0 ⟨v0, rfl, hv0, hb0⟩
  obtain ⟨z, hz⟩ : ∃ z, z = freeOf t := ⟨_, rfl⟩
  rw [← hz] at hv0 hfl
  have HZ := hide hz
  clear hz
  obtain ⟨ao0, cap0, rfl, _⟩ := hv0.shape
  go_wp2
  go_loopw [4, 5] (fun o i wr => ∃ (k : Nat), k ≤ t.length ∧ i = .int .i64 k ∧ OwnC wr w0.heap.size o ((t.take k).map (canonC z)) ∧ Below w0.heap.size w0 wr) (fun _ i _ => t.length - (intOf i).toNat)
  case atStart =>
    refine ⟨0, Nat.zero_le _, rfl, ?_, cell_below _ _⟩
    exact World.ownsRow_made w0 #[] 0 (Nat.le_refl _) (by simp [maxLen]) rfl
  case round =>
    obtain ⟨k, hk, rfl, hown, hB0⟩ := hrel
    have hB := bstep hb0 hB0
    by_cases hlt : k < t.length
    · obtain ⟨c0, c1, c2⟩ := (hA.below hB) k hlt
      have HS := hide (map_step z hlt)
      have hR := (hv0.below hB0).row
      obtain ⟨c, hc⟩ : ∃ c, c = t[k] := ⟨_, rfl⟩
      rw [← hc] at c0 c1 c2 HS
      clear hc
      have hyl : ((t.take k).map (canonC z)).length ≤ 1048576 := by simp; omega
      obtain ⟨y, hy⟩ : ∃ y, y = (t.take k).map (canonC z) := ⟨_, rfl⟩
      rw [← hy] at hown HS hyl
      clear hy
      obtain ⟨ao, cp, rfl, _⟩ := hown.shape
      by_cases hk1 : c.k = 1
      · have hb : (c.k == 1) = true := by simpa using hk1
        have HK := hide (canonC_var (z := z) hk1)
        clear hk1
        go_wp2_with (first | (go_at_call 64; refine (l1Place_any ao0 cap0 z c.n _ (by unfold maxLen; omega) (hR.below (cell_below _ _))).mono ?_; rintro e w1 ⟨rfl, rfl⟩) | (at_builtin; refine wpList_append_own _ rfl _ _ 23 rfl w0.heap.size 36 i0 _ 3 32 Try.underlying23 hi hz0 hz1 hz2 rfl (by decide) _ _ _ rfl (World.ownsRow.alloc (World.ownsRow.alloc hown _) _) ⟨wr.heap.size + 1, 0, none⟩ 1 1 [.int .i64 c.k, .int .i64 (placeV z c.n), .string c.s] rfl rfl ?c1 ?c2 ?c3 ?c4 ?c5 ?_))
        case c1 =>
          intro j u hj
          have := cell_three_new (wr.alloc (.cells #[.int .i64 c.k, .int .i64 (placeV z c.n), .string c.s] 36)) _ _ _ 36 j u hj
          rw [World.size_alloc] at this
          exact this
        case c2 => intro u hu; simp at hu; rcases hu with rfl | rfl | rfl <;> rfl
        case c3 => unfold maxLen; omega
        case c4 => omega
        case c5 => have := hB0.size; simp; omega
        · intro v' w2 hown' hgrow _
          have R := app_cell (c := ⟨c.k, placeV z c.n, c.s⟩) (hB0.alloc hB0.size _) (Nat.le_refl _) (World.ownsRow.alloc hown _) hown' hgrow
          clear hown' hgrow hown c0 c1 c2 hR
          go_wp2
          go_roundw
          case rel => exact ⟨k + 1, by omega, by go_num, by rw [unhide HS, unhide HK]; exact R.1, R.2⟩
          case measure => simp [intOf]; omega
      · have hb : (c.k == 1) = false := by simpa using hk1
        have HK := hide (canonC_other (z := z) hk1)
        clear hk1
        go_wp2_with (at_builtin; refine wpList_append_own _ rfl _ _ 23 rfl w0.heap.size 36 i0 _ 3 32 Try.underlying23 hi hz0 hz1 hz2 rfl (by decide) _ _ _ rfl (World.ownsRow.alloc (World.ownsRow.alloc hown _) _) ⟨wr.heap.size + 1, 0, none⟩ 1 1 [.int .i64 c.k, .int .i64 c.n, .string c.s] rfl rfl ?d1 ?d2 ?d3 ?d4 ?d5 ?_)
        case d1 =>
          intro j u hj
          have := cell_three_new (wr.alloc (.cells #[.int .i64 c.k, .int .i64 c.n, .string c.s] 36)) _ _ _ 36 j u hj
          rw [World.size_alloc] at this
          exact this
        case d2 => intro u hu; simp at hu; rcases hu with rfl | rfl | rfl <;> rfl
        case d3 => unfold maxLen; omega
        case d4 => omega
        case d5 => have := hB0.size; simp; omega
        · intro v' w2 hown' hgrow _
          have R := app_cell (c := c) (hB0.alloc hB0.size _) (Nat.le_refl _) (World.ownsRow.alloc hown _) hown' hgrow
          clear hown' hgrow hown c0 c1 c2 hR
          go_wp2
          go_roundw
          case rel => exact ⟨k + 1, by omega, by go_num, by rw [unhide HS, unhide HK]; exact R.1, R.2⟩
          case measure => simp [intOf]; omega
    · rw [List.take_of_length_le (by omega)] at hown
      have hO := canon_done hown (unhide HZ) hb0.size
      go_wp2
      go_ret
      exact ⟨_, rfl, hO, hB⟩

set_option maxHeartbeats 400000 in
theorem specTrmCanon_none (ao : Option Addr) (cap : Nat) (w : World) :
    Calls Try.prog 27 #[.slice ao 0 cap] w fun e w' => ∃ v, e = .returned v ∧ OwnC w' w.heap.size v (canonOf []) ∧ Below w.heap.size w w' := by
  go_enter Try.func27, Try.ntmps27
  go_wp2_with fail
  refine (specTrmFree_none _ _ _).mono ?_
  rintro e w0 ⟨v0, rfl, hv0, hb0⟩
  go_wp2
  refine wp_loop_rounds 1 ?_
  rw [rounds_succ]
  go_wp2
  go_ret
  have hO : OwnC (w0.alloc (.cells #[] 36)) w0.heap.size (.slice (some ⟨w0.heap.size, 0, none⟩) 0 0) (canonOf []) := World.ownsRow_made w0 #[] 0 (Nat.le_refl _) (by simp [maxLen]) rfl
  exact ⟨_, rfl, hO.base hb0.size, bstep hb0 (cell_below _ _)⟩

/-- The model's TrmCanon, of whatever places. -/
theorem specTrmCanon_any (ao : Option Addr) (cap : Nat) (t : List C) (w : World) (hm : t.length ≤ 1048576) (hA : Row w ao t) :
    Calls Try.prog 27 #[.slice ao t.length cap] w fun e w' => ∃ v, e = .returned v ∧ OwnC w' w.heap.size v (canonOf t) ∧ Below w.heap.size w w' := by
  rcases hA with rfl | ⟨b, off, rfl, hA⟩
  · exact specTrmCanon_none ao cap w
  · exact specTrmCanon_some b off cap t w hm hA
end Go.Proofs.Ytddhjafpacgdaaa

/- What is drawn: places of a term (l20Term). -/
namespace Go.Proofs.Ytddhjafpacgdaaa
open Go.RowKit
set_option linter.unusedVariables false
set_option linter.unusedSimpArgs false

/-- How long a slice value is: for a loop's measure. -/
def lenV : Value → Nat
  | .slice _ n _ => n
  | _ => 0

theorem own_setc {w : World} {base e size n : Nat} {v : Value} {xs : List Value} (h : w.ownsRow base e size v n xs) {p : Addr} (hp : ∀ k, v.ownBlock = some k → k ≠ p.block) (u : Value) : (w.setCell p u).ownsRow base e size v n xs := by
  refine h.kept (row := some p.block) ⟨rfl, rfl, rfl, by simp [World.setCell], fun k hk hn => Below.heap_setCell w p u k (fun e => hn (by rw [e]))⟩ ?_
  cases hv : v.ownBlock with
  | none => exact .inl rfl
  | some k => exact .inr (fun e => hp k hv (by simpa using e))

theorem grown_own {w W w5 : World} {R : Nat} {o : Obj} {v : Value} (h : w.grownBy W (some R)) (hg : (W.alloc o).grownBy w5 v.ownBlock) (hv : ∀ k, v.ownBlock = some k → w.heap.size ≤ k) : w.grownBy w5 (some R) := by
  have h1 := grown_trans h (grown_alloc W o (some R))
  exact ⟨hg.os.trans h1.os, hg.tape.trans h1.tape, hg.output.trans h1.output, Nat.le_trans h1.size hg.size, fun k hk hn => (hg.block k (Nat.lt_of_lt_of_le hk h1.size) (fun e => by have := hv k e.symm; omega)).trans (h1.block k hk hn)⟩

/-- What an append leaves of places that were drawn. -/
theorem draw_app {w W w5 : World} {R p : Nat} {v v' : Value} {t : List C} {c : C} (hb : R < w.heap.size) (hg : w.grownBy W (some R)) (hR : Rd W R p) (hown : OwnC W w.heap.size v t)
    (hown' : w5.ownsRow w.heap.size 36 3 v' (t.length + 1) (flat t ++ [.int .i64 c.k, .int .i64 c.n, .string c.s])) (hgrow : (W.alloc (.cells #[.int .i64 c.k, .int .i64 c.n, .string c.s] 36)).grownBy w5 v.ownBlock) :
    OwnC w5 w.heap.size v' (t ++ [c]) ∧ Rd w5 R p ∧ w.grownBy w5 (some R) := by
  refine ⟨?_, ?_, grown_own hg hgrow (fun k e => (hown.lt k e).1)⟩
  · unfold OwnC
    rw [show (t ++ [c]).length = t.length + 1 by simp, flat_append]
    exact hown'
  · exact (hR.alloc _).grown hgrow (fun k e => Nat.lt_of_lt_of_le hb (hown.lt k e).1)

theorem lenV_own {w : World} {base : Nat} {v : Value} {t : List C} (h : OwnC w base v t) : lenV v = t.length := by
  obtain ⟨ao, cap, rfl, _⟩ := h.shape
  rfl

theorem all_snoc {P : C → Prop} {t : List C} {c : C} (h : ∀ d ∈ t, P d) (hc : P c) : ∀ d ∈ t ++ [c], P d := fun d hd => by
  rcases List.mem_append.1 hd with h' | h'
  · exact h d h'
  · simp at h'; subst h'; exact hc

theorem size3 (w : World) (a b c : Addr) (x y z : Value) : (((w.setCell a x).setCell b y).setCell c z).heap.size = w.heap.size := by simp [World.setCell]

/-- Places were drawn: from lo to hi of them, all within bounds; the reader has gone on, by at most d. -/
def Drew (P : C → Prop) (w : World) (R p lo hi d : Nat) (e : Ending) (w' : World) : Prop :=
  ∃ v t p', e = .returned v ∧ OwnC w' w.heap.size v t ∧ lo ≤ t.length ∧ t.length ≤ hi ∧ (∀ c ∈ t, P c) ∧ Rd w' R p' ∧ p' ≤ p + d ∧ w.grownBy w' (some R)
theorem drew_mk {P : C → Prop} {w w' : World} {R p lo hi d p' : Nat} {v : Value} {t : List C} (h1 : OwnC w' w.heap.size v t) (h2 : lo ≤ t.length) (h3 : t.length ≤ hi) (h4 : ∀ c ∈ t, P c) (h5 : Rd w' R p') (h6 : p' ≤ p + d) (h7 : w.grownBy w' (some R)) : Drew P w R p lo hi d (.returned v) w' :=
  ⟨v, t, p', rfl, h1, h2, h3, h4, h5, h6, h7⟩

set_option maxHeartbeats 4000000 in
theorem term_any (R p : Nat) (most n : Int) (w : World) (hm1 : 1 ≤ most) (hm2 : most ≤ 40) (hn : 1 ≤ n) (hn2 : n ≤ 1000) (hp : p ≤ 999990000) (h : Rd w R p) :
    Calls Try.prog 93 #[.pointer (some ⟨R, 0, none⟩), .int .i64 most, .int .i64 n] w fun e w' => Drew Ds w R p 1 40 200 e w' := by
  obtain ⟨i0, hi, hz0, hz1, hz2⟩ := info_parts Try.infoCell
  have hlt := h.lt
  go_enter Try.func93, Try.ntmps93
  go_wp2
  go_loopw [7, 8] (fun v i wr => ∃ (t : List C) (o : Int) (p' : Nat), OwnC wr w.heap.size v t ∧ i = .int .i64 o ∧ 0 ≤ o ∧ t.length + o ≤ most ∧ (t.length = 0 → o = 1) ∧ (∀ c ∈ t, Ds c) ∧ Rd wr R p' ∧ p' ≤ p + 5 * t.length ∧ w.grownBy wr (some R)) (fun v _ _ => 40 - lenV v)
  case atStart => exact ⟨[], 1, p, World.ownsRow_made w #[] 0 (Nat.le_refl _) (by simp [maxLen]) rfl, rfl, by omega, by simp; omega, fun _ => rfl, fun c hc => by simp at hc, h.alloc _, by simp, grown_alloc _ _ _⟩
  case round =>
    obtain ⟨t, o, p', hown, rfl, ho, hto, ht0, hD, hR, hp', hG⟩ := hrel
    have HD := hide hD
    have HT0 := hide ht0
    have hln := hide (lenV_own hown)
    clear hD ht0
    obtain ⟨ao, cp, rfl, _⟩ := hown.shape
    by_cases hop : 0 < o
    · have hlr := hR.lt
      go_wp2_with fail
      refine (leaf_any R p' n _ hn hn2 (by omega) hR).mono ?_
      rintro e w1 ⟨c, rfl, hDc, hc3, hR1, hG1⟩
      have HDc := hide hDc
      have HC3 := hide hc3
      obtain ⟨hck0, hck4, hcn0, hcn1, hcs⟩ := hDc
      clear hc3
      have ho1 : OwnC w1 w.heap.size (.slice ao t.length cp) t := own_apart hown hG1 (fun k e => .inl (by cases e; exact hlt))
      have hg1 := grown_trans hG hG1
      have hs1 : wr.heap.size ≤ w1.heap.size := hG1.size
      have hws : w.heap.size ≤ wr.heap.size := hG.size
      have hvb : ∀ k, (Value.slice ao t.length cp).ownBlock = some k → k < w1.heap.size := fun k e => (ho1.lt k e).2
      have HVB := hide hvb
      clear hvb
      by_cases hcond : (t.length : Int) + o + 3 < most
      · go_wp2_with fail
        refine (pick_any R (p' + 2) 3 _ (by omega) (by omega) (by omega) (hR1.alloc _)).mono ?_
        rintro e w2 ⟨r, rfl, hr0, hr1, hR2, hG2⟩
        have hg2 := grown_trans hg1 (grown_first hG2)
        have ho2 : OwnC w2 w.heap.size (.slice ao t.length cp) t := own_apart (World.ownsRow.alloc ho1 _) hG2 (fun k e => .inl (by cases e; exact hlt))
        have hs2 : w1.heap.size < w2.heap.size := by have := hG2.size; simp at this; omega
        have hbx : w2.heap[w1.heap.size]? = some (.cells #[.int .i64 c.k, .int .i64 c.n, .string c.s] 36 (0, 0)) := (hG2.block w1.heap.size (by simp) (by simp; omega)).trans (heap_alloc_new w1 _)
        have HBX := hide hbx
        clear hbx hG2
        by_cases hr : r = 0
        · have hrb : (r == 0) = true := by simpa using hr
          clear hr
          go_wp2_with fail
          refine (pick_any R (p' + 2 + 1) 3 _ (by omega) (by omega) (by omega) hR2).mono ?_
          rintro e w3 ⟨r2, rfl, hr20, hr21, hR3, hG3⟩
          have hg3 := grown_trans hg2 hG3
          have ho3 : OwnC w3 w.heap.size (.slice ao t.length cp) t := own_apart ho2 hG3 (fun k e => .inl (by cases e; exact hlt))
          have hs3 : w1.heap.size < w3.heap.size := Nat.lt_of_lt_of_le hs2 hG3.size
          have HBX3 := hide ((hG3.block w1.heap.size hs2 (by simp; omega)).trans (unhide HBX))
          clear hG3
          go_wp2_with fail
          refine (pick_any R (p' + 2 + 1 + 1) 4 _ (by omega) (by omega) (by omega) (hR3.alloc _)).mono ?_
          rintro e w4 ⟨r3, rfl, hr30, hr31, hR4, hG4⟩
          obtain ⟨j, rfl⟩ := Int.eq_ofNat_of_zero_le hr30
          have hq := pick_lits (xs := [ByteArray.mk #[102], ByteArray.mk #[103], ByteArray.mk #[99], ByteArray.mk #[115]]) hR3.lt hG4 (j := j) (by simp; omega)
          have hx : ∀ x ∈ [ByteArray.mk #[102], ByteArray.mk #[103], ByteArray.mk #[99], ByteArray.mk #[115]], x.size ≤ 11 := by decide
          have hx' := hx _ (List.getElem_mem (l := [ByteArray.mk #[102], ByteArray.mk #[103], ByteArray.mk #[99], ByteArray.mk #[115]]) (n := j) (by simp; omega))
          obtain ⟨x, hxe⟩ : ∃ x : ByteArray, x = ([ByteArray.mk #[102], ByteArray.mk #[103], ByteArray.mk #[99], ByteArray.mk #[115]] : List ByteArray)[j]'(by simp; omega) := ⟨_, rfl⟩
          rw [← hxe] at hq hx'
          clear hxe hx
          have hg4 := grown_trans hg3 (grown_first hG4)
          have ho4 : OwnC w4 w.heap.size (.slice ao t.length cp) t := own_apart (World.ownsRow.alloc ho3 _) hG4 (fun k e => .inl (by cases e; exact hlt))
          have hs4 : w1.heap.size < w4.heap.size := by have := hG4.size; simp at this; omega
          obtain ⟨q0, q1, q2, f0, f1, f2⟩ := agg_cells ((hG4.block w1.heap.size (by simp; omega) (by simp; omega)).trans ((Below.heap_alloc w3 _ _ hs3).trans (unhide HBX3)))
          clear hG4
          have hdc5 : Ds ⟨3, 1 + r2, x⟩ := ds_mk (by omega) (by omega) (by omega) (by omega) hx'
          have ho5 : OwnC (((w4.setCell ⟨w1.heap.size, 0, none⟩ (.int .i64 3)).setCell ⟨w1.heap.size, 1, none⟩ (.int .i64 (1 + r2))).setCell ⟨w1.heap.size, 2, none⟩ (.string x)) w.heap.size (.slice ao t.length cp) t :=
            own_setc (own_setc (own_setc ho4 (fun k e => Nat.ne_of_lt (unhide HVB k e)) _) (fun k e => Nat.ne_of_lt (unhide HVB k e)) _) (fun k e => Nat.ne_of_lt (unhide HVB k e)) _
          have hR5 : Rd (((w4.setCell ⟨w1.heap.size, 0, none⟩ (.int .i64 3)).setCell ⟨w1.heap.size, 1, none⟩ (.int .i64 (1 + r2))).setCell ⟨w1.heap.size, 2, none⟩ (.string x)) R (p' + 2 + 1 + 1 + 1) :=
            ((hR4.set (by show R < w1.heap.size; omega) _).set (by show R < w1.heap.size; omega) _).set (by show R < w1.heap.size; omega) _
          have hg5 : w.grownBy (((w4.setCell ⟨w1.heap.size, 0, none⟩ (.int .i64 3)).setCell ⟨w1.heap.size, 1, none⟩ (.int .i64 (1 + r2))).setCell ⟨w1.heap.size, 2, none⟩ (.string x)) (some R) :=
            grown_set (grown_set (grown_set hg4 (by show w.heap.size ≤ w1.heap.size; omega) _) (by show w.heap.size ≤ w1.heap.size; omega) _) (by show w.heap.size ≤ w1.heap.size; omega) _
          go_wp2_with (at_builtin; refine wpList_append_own _ rfl _ _ 23 rfl w.heap.size 36 i0 _ 3 32 Try.underlying23 hi hz0 hz1 hz2 rfl (by decide) _ _ _ rfl (World.ownsRow.alloc ho5 _) ⟨w4.heap.size, 0, none⟩ 1 1 [.int .i64 3, .int .i64 (1 + r2), .string x] rfl rfl ?z1 ?z2 ?z3 ?z4 ?z5 ?_)
          case z1 => intro j u hj; have := cell_three_new (((w4.setCell ⟨w1.heap.size, 0, none⟩ (.int .i64 3)).setCell ⟨w1.heap.size, 1, none⟩ (.int .i64 (1 + r2))).setCell ⟨w1.heap.size, 2, none⟩ (.string x)) _ _ _ 36 j u hj; rw [size3] at this; exact this
          case z2 => intro u hu; simp at hu; rcases hu with rfl | rfl | rfl <;> rfl
          case z3 => unfold maxLen; omega
          case z4 => omega
          case z5 => simp; omega
          · intro v' w5 hown' hgrow _
            have RR := draw_app (c := ⟨3, 1 + r2, x⟩) hlt hg5 hR5 ho5 hown' hgrow
            have hl5 := hide (lenV_own RR.1)
            clear hown' hgrow
            go_wp2
            go_roundw
            case rel => exact ⟨t ++ [⟨3, 1 + r2, x⟩], o - 1 + (1 + r2), p' + 2 + 1 + 1 + 1, RR.1, by go_num, by omega, by simp; omega, by simp, all_snoc (unhide HD) hdc5, RR.2.1, by simp; omega, RR.2.2⟩
            case measure => rw [unhide hl5]; simp [lenV]; omega
        · have hrb : (r == 0) = false := by simpa using hr
          clear hr
          obtain ⟨q0, q1, q2, f0, f1, f2⟩ := agg_cells (unhide HBX)
          by_cases hk3 : c.k = 3
          · have hb3 : (c.k == 3) = true := by simpa using hk3
            have hcn : c.n = 0 := unhide HC3 hk3
            have hcn' : c.n ≤ 0 := by omega
            have hcn'' : 0 ≤ c.n := by omega
            clear hcn hk3
            go_wp2_with (at_builtin; refine wpList_append_own _ rfl _ _ 23 rfl w.heap.size 36 i0 _ 3 32 Try.underlying23 hi hz0 hz1 hz2 rfl (by decide) _ _ _ rfl (World.ownsRow.alloc ho2 _) ⟨w2.heap.size, 0, none⟩ 1 1 [.int .i64 c.k, .int .i64 c.n, .string c.s] rfl rfl ?bx1 ?bx2 ?bx3 ?bx4 ?bx5 ?_)
            case bx1 => exact cell_three_new _ _ _ _ _
            case bx2 => intro u hu; simp at hu; rcases hu with rfl | rfl | rfl <;> rfl
            case bx3 => unfold maxLen; omega
            case bx4 => omega
            case bx5 => simp; omega
            · intro v' w5 hown' hgrow _
              have RR := draw_app (c := c) hlt hg2 hR2 ho2 hown' hgrow
              have hl5 := hide (lenV_own RR.1)
              clear hown' hgrow
              go_wp2
              go_roundw
              case rel => exact ⟨t ++ [c], o - 1 + c.n, p' + 2 + 1, RR.1, by go_num, by omega, by simp; omega, by simp, all_snoc (unhide HD) (unhide HDc), RR.2.1, by simp; omega, RR.2.2⟩
              case measure => rw [unhide hl5]; simp [lenV]; omega
          · have hb3 : (c.k == 3) = false := by simpa using hk3
            clear hk3
            go_wp2_with (at_builtin; refine wpList_append_own _ rfl _ _ 23 rfl w.heap.size 36 i0 _ 3 32 Try.underlying23 hi hz0 hz1 hz2 rfl (by decide) _ _ _ rfl (World.ownsRow.alloc ho2 _) ⟨w2.heap.size, 0, none⟩ 1 1 [.int .i64 c.k, .int .i64 c.n, .string c.s] rfl rfl ?by1 ?by2 ?by3 ?by4 ?by5 ?_)
            case by1 => exact cell_three_new _ _ _ _ _
            case by2 => intro u hu; simp at hu; rcases hu with rfl | rfl | rfl <;> rfl
            case by3 => unfold maxLen; omega
            case by4 => omega
            case by5 => simp; omega
            · intro v' w5 hown' hgrow _
              have RR := draw_app (c := c) hlt hg2 hR2 ho2 hown' hgrow
              have hl5 := hide (lenV_own RR.1)
              clear hown' hgrow
              go_wp2
              go_roundw
              case rel => exact ⟨t ++ [c], o - 1, p' + 2 + 1, RR.1, by go_num, by omega, by simp; omega, by simp, all_snoc (unhide HD) (unhide HDc), RR.2.1, by simp; omega, RR.2.2⟩
              case measure => rw [unhide hl5]; simp [lenV]; omega
      · have hcd : decide ((t.length : Int) + o + 3 < most) = false := by simpa using hcond
        by_cases hk3 : c.k = 3
        · have hb3 : (c.k == 3) = true := by simpa using hk3
          have hcn : c.n = 0 := unhide HC3 hk3
          have hcn' : c.n ≤ 0 := by omega
          have hcn'' : 0 ≤ c.n := by omega
          clear hcn hk3
          go_wp2_with (at_builtin; refine wpList_append_own _ rfl _ _ 23 rfl w.heap.size 36 i0 _ 3 32 Try.underlying23 hi hz0 hz1 hz2 rfl (by decide) _ _ _ rfl (World.ownsRow.alloc (World.ownsRow.alloc ho1 _) _) ⟨w1.heap.size + 1, 0, none⟩ 1 1 [.int .i64 c.k, .int .i64 c.n, .string c.s] rfl rfl ?ax1 ?ax2 ?ax3 ?ax4 ?ax5 ?_)
          case ax1 => intro j u hj; have := cell_three_new (w1.alloc (.cells #[.int .i64 c.k, .int .i64 c.n, .string c.s] 36)) _ _ _ 36 j u hj; rw [World.size_alloc] at this; exact this
          case ax2 => intro u hu; simp at hu; rcases hu with rfl | rfl | rfl <;> rfl
          case ax3 => unfold maxLen; omega
          case ax4 => omega
          case ax5 => simp; omega
          · intro v' w5 hown' hgrow _
            have RR := draw_app (c := c) hlt (grown_trans hg1 (grown_alloc _ _ _)) (hR1.alloc _) (World.ownsRow.alloc ho1 _) hown' hgrow
            have hl5 := hide (lenV_own RR.1)
            clear hown' hgrow
            go_wp2
            go_roundw
            case rel => exact ⟨t ++ [c], o - 1 + c.n, p' + 2, RR.1, by go_num, by omega, by simp; omega, by simp, all_snoc (unhide HD) (unhide HDc), RR.2.1, by simp; omega, RR.2.2⟩
            case measure => rw [unhide hl5]; simp [lenV]; omega
        · have hb3 : (c.k == 3) = false := by simpa using hk3
          clear hk3
          go_wp2_with (at_builtin; refine wpList_append_own _ rfl _ _ 23 rfl w.heap.size 36 i0 _ 3 32 Try.underlying23 hi hz0 hz1 hz2 rfl (by decide) _ _ _ rfl (World.ownsRow.alloc (World.ownsRow.alloc ho1 _) _) ⟨w1.heap.size + 1, 0, none⟩ 1 1 [.int .i64 c.k, .int .i64 c.n, .string c.s] rfl rfl ?ay1 ?ay2 ?ay3 ?ay4 ?ay5 ?_)
          case ay1 => intro j u hj; have := cell_three_new (w1.alloc (.cells #[.int .i64 c.k, .int .i64 c.n, .string c.s] 36)) _ _ _ 36 j u hj; rw [World.size_alloc] at this; exact this
          case ay2 => intro u hu; simp at hu; rcases hu with rfl | rfl | rfl <;> rfl
          case ay3 => unfold maxLen; omega
          case ay4 => omega
          case ay5 => simp; omega
          · intro v' w5 hown' hgrow _
            have RR := draw_app (c := c) hlt (grown_trans hg1 (grown_alloc _ _ _)) (hR1.alloc _) (World.ownsRow.alloc ho1 _) hown' hgrow
            have hl5 := hide (lenV_own RR.1)
            clear hown' hgrow
            go_wp2
            go_roundw
            case rel => exact ⟨t ++ [c], o - 1, p' + 2, RR.1, by go_num, by omega, by simp; omega, by simp, all_snoc (unhide HD) (unhide HDc), RR.2.1, by simp; omega, RR.2.2⟩
            case measure => rw [unhide hl5]; simp [lenV]; omega
    · have h1l : 1 ≤ t.length := by
        by_cases h0 : t.length = 0
        · have := unhide HT0 h0; omega
        · omega
      go_wp2
      go_ret
      exact drew_mk hown h1l (by omega) (unhide HD) hR (by omega) hG
end Go.Proofs.Ytddhjafpacgdaaa
