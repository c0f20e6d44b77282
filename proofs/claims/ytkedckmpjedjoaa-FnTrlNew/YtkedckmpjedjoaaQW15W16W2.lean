import Derived.Test.YtkedckmpjedjoaaQW10W13
import Derived.Test.YtkedckmpjedjoaaQW1Mem2Mem3W9
import Derived.Test.YtkedckmpjedjoaaQPlainMemOpen
/- TrmCanon: the plain list; the walks of the model's l1Place and TrmCanon, and of the program's TrmCanon. -/
namespace Go.Proofs.Ytkedckmpjedjoaa
open Go.RowKit Go.Maps
set_option linter.unusedVariables false
set_option linter.unusedSimpArgs false

/-- Where a number stands first among some; -1, if it does not. -/
def placeV : List Int → Int → Int
  | [], _ => -1
  | a :: r, x => if a = x then 0 else if placeV r x = -1 then -1 else placeV r x + 1

theorem placeV_ge (z : List Int) (x : Int) : -1 ≤ placeV z x := by
  induction z with
  | nil => simp [placeV]
  | cons a r ih => simp only [placeV]; split; omega; split <;> omega

theorem placeV_at : ∀ (z : List Int) (k : Nat) (h : k < z.length), (∀ j, (hj : j < z.length) → j < k → z[j] ≠ z[k]) → placeV z z[k] = k
  | a :: r, 0, h, _ => by simp [placeV]
  | a :: r, k + 1, h, hn => by
      have ih := placeV_at r k (by simpa using h) (fun j hj hjk => hn (j + 1) (by simp; omega) (by omega))
      have h0 : a ≠ r[k]'(by simpa using h) := hn 0 (by simp) (by omega)
      simp only [placeV, List.getElem_cons_succ, if_neg h0, ih]
      rw [if_neg (by omega)]; omega
theorem placeV_no : ∀ (z : List Int) (x : Int), x ∉ z → placeV z x = -1
  | [], x, _ => rfl
  | a :: r, x, h => by
      have ih := placeV_no r x (fun hm => h (List.mem_cons_of_mem _ hm))
      have h0 : a ≠ x := fun e => h (by simp [e])
      simp [placeV, h0, ih]

theorem placeV_first (z : List Int) (x : Int) (k : Nat) (h : k < z.length) (hx : z[k] = x) (hn : x ∉ z.take k) : placeV z x = k := by
  subst hx
  refine placeV_at z k h (fun j hj hjk e => hn ?_)
  rw [← e, List.mem_take_iff_getElem]
  exact ⟨j, by omega, rfl⟩

def canonC (z : List Int) (c : C) : C := if c.k = 1 then ⟨c.k, placeV z c.n, c.s⟩ else c
/-- Places with their variables numbered as they come first. -/
def canonOf (t : List C) : List C := t.map (canonC (freeOf t))

theorem canonC_var {z : List Int} {c : C} (h : c.k = 1) : canonC z c = ⟨c.k, placeV z c.n, c.s⟩ := by simp [canonC, h]
theorem canonC_other {z : List Int} {c : C} (h : c.k ≠ 1) : canonC z c = c := by simp [canonC, h]
theorem canonOf_length (t : List C) : (canonOf t).length = t.length := by simp [canonOf]

theorem map_step {t : List C} {k : Nat} (z : List Int) (h : k < t.length) : (t.take (k + 1)).map (canonC z) = (t.take k).map (canonC z) ++ [canonC z t[k]] := by
  rw [List.take_succ_eq_append_getElem h, List.map_append]; rfl

theorem mem_addV {acc : List Int} {c : C} {x : Int} : x ∈ addV acc c ↔ x ∈ acc ∨ (c.k = 1 ∧ x = c.n) := by
  unfold addV
  by_cases h : c.k = 1
  · rw [if_pos h]
    by_cases hn : c.n ∈ acc
    · rw [if_pos hn]
      constructor
      · exact .inl
      · rintro (h' | ⟨_, rfl⟩)
        · exact h'
        · exact hn
    · rw [if_neg hn]; simp [h]
  · rw [if_neg h]; simp [h]
theorem mem_fold : ∀ (t : List C) (acc : List Int) (x : Int), x ∈ t.foldl addV acc ↔ x ∈ acc ∨ ∃ c ∈ t, c.k = 1 ∧ x = c.n
  | [], acc, x => by simp
  | c :: t, acc, x => by
      rw [List.foldl_cons, mem_fold t, mem_addV]
      simp only [List.mem_cons, exists_eq_or_imp]
      exact or_assoc
theorem mem_freeOf (t : List C) (x : Int) : x ∈ freeOf t ↔ ∃ c ∈ t, c.k = 1 ∧ x = c.n := by
  unfold freeOf; rw [mem_fold]; simp

set_option maxHeartbeats 1000000 in
theorem l1Place_some (b off cap : Nat) (z : List Int) (n : Int) (w : World) (hm : z.length ≤ maxLen) (hA : AtI w b off z) :
    Calls Try.prog 137 #[.slice (some ⟨b, off, none⟩) z.length cap, .int .i64 n] w fun e w' => e = .returned (.int .i64 (placeV z n)) ∧ w' = w := by
  unfold maxLen at hm
  go_enter Try.func137, Try.ntmps137
  go_wp2
  go_loop [5] (fun i => ∃ (k : Nat), k ≤ z.length ∧ i = .int .i64 k ∧ n ∉ z.take k) (fun i => z.length - (intOf i).toNat)
  case atStart => exact ⟨0, Nat.zero_le _, rfl, by simp⟩
  case round =>
    obtain ⟨k, hk, rfl, hx⟩ := hrel
    have HX := hide hx
    clear hx
    by_cases hlt : k < z.length
    · have c0 := hA k hlt
      obtain ⟨c, hc⟩ : ∃ c, c = z[k] := ⟨_, rfl⟩
      rw [← hc] at c0
      have HC := hide hc
      clear hc
      by_cases he : c = n
      · have hb : (c == n) = true := by simpa using he
        have HE := hide he
        clear he
        go_wp2
        go_ret
        exact ⟨ret_int (placeV_first z n k hlt (by rw [← unhide HC, unhide HE]) (unhide HX)).symm, rfl⟩
      · have hb : (c == n) = false := by simpa using he
        have HE := hide he
        clear he
        go_wp2
        go_round
        case rel =>
          refine ⟨k + 1, by omega, by go_num, ?_⟩
          rw [List.take_succ_eq_append_getElem hlt, List.mem_append]
          rintro (h | h)
          · exact unhide HX h
          · simp at h
            exact unhide HE (by rw [unhide HC, h])
        case measure => simp [intOf]; omega
    · go_wp2
      go_ret
      refine ⟨ret_int ?_, rfl⟩
      have := unhide HX
      rw [List.take_of_length_le (by omega)] at this
      rw [placeV_no z n this]

set_option maxHeartbeats 400000 in
theorem l1Place_none (ao : Option Addr) (cap : Nat) (n : Int) (w : World) :
    Calls Try.prog 137 #[.slice ao 0 cap, .int .i64 n] w fun e w' => e = .returned (.int .i64 (-1)) ∧ w' = w := by
  go_enter Try.func137, Try.ntmps137
  go_wp2
  refine wp_loop_rounds 1 ?_
  rw [rounds_succ]
  go_wp2
  go_ret
  exact ⟨rfl, rfl⟩

theorem l1Place_any (ao : Option Addr) (cap : Nat) (z : List Int) (n : Int) (w : World) (hm : z.length ≤ maxLen) (hA : RowI w ao z) :
    Calls Try.prog 137 #[.slice ao z.length cap, .int .i64 n] w fun e w' => e = .returned (.int .i64 (placeV z n)) ∧ w' = w := by
  rcases hA with rfl | ⟨b, off, rfl, hA⟩
  · exact l1Place_none ao cap n w
  · exact l1Place_some b off cap z n w hm hA

/-- A place that was just laid in a block of its own. -/
theorem cell_three_new (w : World) (x y z : Value) (t : TypeId) : ∀ j u, [x, y, z][j]? = some u → (w.alloc (.cells #[x, y, z] t)).cell? ((⟨w.heap.size, 0, none⟩ : Addr).add j) = some u := by
  intro j u hj
  match j, hj with
  | 0, hj => simp at hj; subst hj; simp [Addr.add]
  | 1, hj => simp at hj; subst hj; simp [Addr.add]
  | 2, hj => simp at hj; subst hj; simp [Addr.add]

/-- What an append of one place leaves. -/
theorem app_cell {w wr w1 : World} {base : Nat} {v v' : Value} {t : List C} {c : C} (hB : Below w.heap.size w wr) (hb : w.heap.size ≤ base) (hown : OwnC wr base v t)
    (hown' : w1.ownsRow base 98 3 v' (t.length + 1) (flat t ++ [.int .i64 c.k, .int .i64 c.n, .string c.s])) (hgrow : (wr.alloc (.cells #[.int .i64 c.k, .int .i64 c.n, .string c.s] 98)).grownBy w1 v.ownBlock) :
    OwnC w1 base v' (t ++ [c]) ∧ Below w.heap.size w w1 := by
  constructor
  · unfold OwnC
    rw [show (t ++ [c]).length = t.length + 1 by simp, flat_append]
    exact hown'
  · exact (hB.alloc hB.size _).grown hgrow (by have := hB.size; simp; omega) (fun k e => Nat.le_trans hb (hown.lt k e).1)

theorem OwnC.base {w : World} {base base' : Nat} {v : Value} {t : List C} (h : OwnC w base v t) (hb : base' ≤ base) : OwnC w base' v t := by
  refine ⟨h.1, ?_⟩
  rcases h.2 with h2 | ⟨g, cap, cur, e, hg, r⟩
  · exact .inl h2
  · exact .inr ⟨g, cap, cur, e, Nat.le_trans hb hg, r⟩

theorem canon_done {w : World} {base base' : Nat} {v : Value} {t : List C} {z : List Int} (h : OwnC w base v (t.map (canonC z))) (hz : z = freeOf t) (hb : base' ≤ base) : OwnC w base' v (canonOf t) := by
  subst hz
  exact h.base hb

set_option maxHeartbeats 2000000 in
theorem specTrmCanon_some (b off cap : Nat) (t : List C) (w : World) (hm : t.length ≤ 1048576) (hA : At w b off t) :
    Calls Try.prog 94 #[.slice (some ⟨b, off, none⟩) t.length cap] w fun e w' => ∃ v, e = .returned v ∧ OwnC w' w.heap.size v (canonOf t) ∧ Below w.heap.size w w' := by
  obtain ⟨i0, hi, hz0, hz1, hz2⟩ := info_parts Try.infoCell
  have hfl := freeOf_len t
  go_enter Try.func94, Try.ntmps94
  go_wp2_with fail
  refine (specTrmFree_any _ _ t _ hm (.inr ⟨b, off, rfl, hA⟩)).mono ?_
  rintro e w0 ⟨v0, rfl, hv0, hb0⟩
  obtain ⟨z, hz⟩ : ∃ z, z = freeOf t := ⟨_, rfl⟩
  rw [← hz] at hv0 hfl
  have HZ := hide hz
  clear hz
  obtain ⟨ao0, cap0, rfl, _⟩ := hv0.shape
  go_wp2
  go_loopw [4, 5] (fun o i wr => ∃ (k : Nat), k ≤ t.length ∧ i = .int .i64 k ∧ OwnC wr w0.heap.size o ((t.take k).map (canonC z)) ∧ Below w0.heap.size w0 wr) (fun _ i _ => t.length - (intOf i).toNat)
  case atStart =>
    refine ⟨0, Nat.zero_le _, rfl, ?_, cell_below _ _⟩
    exact World.ownsRow_made w0 #[] 0 (Nat.le_refl _) (by simp [maxLen]) rfl
  case round =>
    obtain ⟨k, hk, rfl, hown, hB0⟩ := hrel
    have hB := bstep hb0 hB0
    by_cases hlt : k < t.length
    · obtain ⟨c0, c1, c2⟩ := (hA.below hB) k hlt
      have HS := hide (map_step z hlt)
      have hR := (hv0.below hB0).row
      obtain ⟨c, hc⟩ : ∃ c, c = t[k] := ⟨_, rfl⟩
      rw [← hc] at c0 c1 c2 HS
      clear hc
      have hyl : ((t.take k).map (canonC z)).length ≤ 1048576 := by simp; omega
      obtain ⟨y, hy⟩ : ∃ y, y = (t.take k).map (canonC z) := ⟨_, rfl⟩
      rw [← hy] at hown HS hyl
      clear hy
      obtain ⟨ao, cp, rfl, _⟩ := hown.shape
      by_cases hk1 : c.k = 1
      · have hb : (c.k == 1) = true := by simpa using hk1
        have HK := hide (canonC_var (z := z) hk1)
        clear hk1
        go_wp2_with (first | (go_at_call 137; refine (l1Place_any ao0 cap0 z c.n _ (by unfold maxLen; omega) (hR.below (cell_below _ _))).mono ?_; rintro e w1 ⟨rfl, rfl⟩) | (at_builtin; refine wpList_append_own _ rfl _ _ 41 rfl w0.heap.size 98 i0 _ 3 32 Try.underlying41 hi hz0 hz1 hz2 rfl (by decide) _ _ _ rfl (World.ownsRow.alloc (World.ownsRow.alloc hown _) _) ⟨wr.heap.size + 1, 0, none⟩ 1 1 [.int .i64 c.k, .int .i64 (placeV z c.n), .string c.s] rfl rfl ?c1 ?c2 ?c3 ?c4 ?c5 ?_))
        case c1 =>
          intro j u hj
          have := cell_three_new (wr.alloc (.cells #[.int .i64 c.k, .int .i64 (placeV z c.n), .string c.s] 98)) _ _ _ 98 j u hj
          rw [World.size_alloc] at this
          exact this
        case c2 => intro u hu; simp at hu; rcases hu with rfl | rfl | rfl <;> rfl
        case c3 => unfold maxLen; omega
        case c4 => omega
        case c5 => have := hB0.size; simp; omega
        · intro v' w2 hown' hgrow _
          have R := app_cell (c := ⟨c.k, placeV z c.n, c.s⟩) (hB0.alloc hB0.size _) (Nat.le_refl _) (World.ownsRow.alloc hown _) hown' hgrow
          clear hown' hgrow hown c0 c1 c2 hR
          go_wp2
          go_roundw
          case rel => exact ⟨k + 1, by omega, by go_num, by rw [unhide HS, unhide HK]; exact R.1, R.2⟩
          case measure => simp [intOf]; omega
      · have hb : (c.k == 1) = false := by simpa using hk1
        have HK := hide (canonC_other (z := z) hk1)
        clear hk1
        go_wp2_with (at_builtin; refine wpList_append_own _ rfl _ _ 41 rfl w0.heap.size 98 i0 _ 3 32 Try.underlying41 hi hz0 hz1 hz2 rfl (by decide) _ _ _ rfl (World.ownsRow.alloc (World.ownsRow.alloc hown _) _) ⟨wr.heap.size + 1, 0, none⟩ 1 1 [.int .i64 c.k, .int .i64 c.n, .string c.s] rfl rfl ?d1 ?d2 ?d3 ?d4 ?d5 ?_)
        case d1 =>
          intro j u hj
          have := cell_three_new (wr.alloc (.cells #[.int .i64 c.k, .int .i64 c.n, .string c.s] 98)) _ _ _ 98 j u hj
          rw [World.size_alloc] at this
          exact this
        case d2 => intro u hu; simp at hu; rcases hu with rfl | rfl | rfl <;> rfl
        case d3 => unfold maxLen; omega
        case d4 => omega
        case d5 => have := hB0.size; simp; omega
        · intro v' w2 hown' hgrow _
          have R := app_cell (c := c) (hB0.alloc hB0.size _) (Nat.le_refl _) (World.ownsRow.alloc hown _) hown' hgrow
          clear hown' hgrow hown c0 c1 c2 hR
          go_wp2
          go_roundw
          case rel => exact ⟨k + 1, by omega, by go_num, by rw [unhide HS, unhide HK]; exact R.1, R.2⟩
          case measure => simp [intOf]; omega
    · rw [List.take_of_length_le (by omega)] at hown
      have hO := canon_done hown (unhide HZ) hb0.size
      go_wp2
      go_ret
      exact ⟨_, rfl, hO, hB⟩

set_option maxHeartbeats 400000 in
theorem specTrmCanon_none (ao : Option Addr) (cap : Nat) (w : World) :
    Calls Try.prog 94 #[.slice ao 0 cap] w fun e w' => ∃ v, e = .returned v ∧ OwnC w' w.heap.size v (canonOf []) ∧ Below w.heap.size w w' := by
  go_enter Try.func94, Try.ntmps94
  go_wp2_with fail
  refine (specTrmFree_none _ _ _).mono ?_
  rintro e w0 ⟨v0, rfl, hv0, hb0⟩
  go_wp2
  refine wp_loop_rounds 1 ?_
  rw [rounds_succ]
  go_wp2
  go_ret
  have hO : OwnC (w0.alloc (.cells #[] 98)) w0.heap.size (.slice (some ⟨w0.heap.size, 0, none⟩) 0 0) (canonOf []) := World.ownsRow_made w0 #[] 0 (Nat.le_refl _) (by simp [maxLen]) rfl
  exact ⟨_, rfl, hO.base hb0.size, bstep hb0 (cell_below _ _)⟩

/-- The model's TrmCanon, of whatever places. -/
theorem specTrmCanon_any (ao : Option Addr) (cap : Nat) (t : List C) (w : World) (hm : t.length ≤ 1048576) (hA : Row w ao t) :
    Calls Try.prog 94 #[.slice ao t.length cap] w fun e w' => ∃ v, e = .returned v ∧ OwnC w' w.heap.size v (canonOf t) ∧ Below w.heap.size w w' := by
  rcases hA with rfl | ⟨b, off, rfl, hA⟩
  · exact specTrmCanon_none ao cap w
  · exact specTrmCanon_some b off cap t w hm hA
end Go.Proofs.Ytkedckmpjedjoaa

/- The walk of the program's TrmCanon. -/
namespace Go.Proofs.Ytkedckmpjedjoaa
open Go.RowKit Go.Maps
set_option linter.unusedVariables false
set_option linter.unusedSimpArgs false

theorem exists_first : ∀ (z : List Int) (x : Int), x ∈ z → ∃ k, ∃ h : k < z.length, z[k] = x ∧ x ∉ z.take k
  | a :: r, x, hm => by
      by_cases e : a = x
      · exact ⟨0, by simp, e, by simp⟩
      · have hr : x ∈ r := by
          rcases List.mem_cons.1 hm with h | h
          · exact absurd h.symm e
          · exact h
        obtain ⟨k, hk, h1, h2⟩ := exists_first r x hr
        refine ⟨k + 1, by simp; omega, h1, ?_⟩
        rw [List.take_succ_cons, List.mem_cons]
        rintro (h | h)
        · exact e h.symm
        · exact h2 h

theorem tab_place {z : List Int} {D : DataW Unit} {x : Int} (h : Tab z D) (hx : x ∈ z) (d : DataW Unit) : D.atKey (.int .i64 x) d = .lit (.int .i64 (placeV z x)) := by
  obtain ⟨k, hk, rfl, hn⟩ := exists_first z x hx
  rw [h.2.2 k hk d, placeV_first z z[k] k hk rfl hn]

theorem tab_get {z : List Int} {D : DataW Unit} {x cc : Int} (h : Tab z D) (hx : x ∈ z) (hat : D.atKey (.int .i64 x) (.lit (.int .i64 0)) = .lit (.int .i64 cc)) : placeV z x = cc := by
  rw [tab_place h hx] at hat
  simpa using hat

set_option maxHeartbeats 2000000 in
theorem TrmCanon_some (b off cap : Nat) (t : List C) (w : World) (hm : t.length ≤ 1048576) (hA : At w b off t) (hw : WfC t) :
    Calls Try.prog 95 #[.slice (some ⟨b, off, none⟩) t.length cap] w fun e w' => ∃ v, e = .returned v ∧ OwnC w' w.heap.size v (canonOf t) ∧ Below w.heap.size w w' := by
  obtain ⟨i0, hi, hz0, hz1, hz2⟩ := info_parts Try.infoCell
  have hfl := freeOf_len t
  have HM := hide (mem_freeOf t)
  go_enter Try.func95, Try.ntmps95
  go_wp2_with fail
  refine (numberVars_any _ _ t _ hm (.inr ⟨b, off, rfl, hA⟩) hw).mono ?_
  rintro e w0 ⟨v0, rfl, hv0, ⟨D, n, hn, hmap, hT⟩, hb0⟩
  obtain ⟨z, hz⟩ : ∃ z, z = freeOf t := ⟨_, rfl⟩
  rw [← hz] at hfl hT HM
  have HZ := hide hz
  have HT := hide hT
  clear hz hT hv0
  have hszm : w.heap.size < w0.heap.size := hmap.lt
  go_wp2
  go_loopw [5, 15] (fun o i wr => ∃ (k : Nat), k ≤ t.length ∧ i = .int .i64 k ∧ OwnC wr w0.heap.size o ((t.take k).map (canonC z)) ∧ Below w0.heap.size w0 wr) (fun _ i _ => t.length - (intOf i).toNat)
  case atStart => exact ⟨0, Nat.zero_le _, rfl, World.ownsRow_nil _ _ _ _, Below.refl _ _⟩
  case round =>
    obtain ⟨k, hk, rfl, hown, hB0⟩ := hrel
    have hB := bstep hb0 hB0
    by_cases hlt : k < t.length
    · obtain ⟨c0, c1, c2⟩ := (hA.below hB) k hlt
      have HS := hide (map_step z hlt)
      have hwf := (hw _ (List.getElem_mem hlt)).2
      have hin := hide (show t[k].k = 1 → t[k].n ∈ z from fun h => ((unhide HM) _).2 ⟨_, List.getElem_mem hlt, h, rfl⟩)
      have hmp := hmap.kept (grown_below (row := none) hB0) (by simp)
      obtain ⟨c, hc⟩ : ∃ c, c = t[k] := ⟨_, rfl⟩
      rw [← hc] at c0 c1 c2 HS hwf hin
      clear hc
      have hyl : ((t.take k).map (canonC z)).length ≤ 1048576 := by simp; omega
      obtain ⟨y, hy⟩ : ∃ y, y = (t.take k).map (canonC z) := ⟨_, rfl⟩
      rw [← hy] at hown HS hyl
      clear hy
      obtain ⟨ao, cp, rfl, _⟩ := hown.shape
      by_cases hk1 : c.k = 1
      · have hb : (c.k == 1) = true := by simpa using hk1
        have hmem := hide (unhide hin hk1)
        have HK := hide (canonC_var (z := z) hk1)
        clear hk1 hin
        go_wp2_with (first | (at_lookup; refine wpList_lookup_own_int _ rfl _ _ 199 rfl 3 3 .i64 (int_keyed Try.underlying3) Try.underlying199 Try.underlying3 (zeroInt _) w.heap.size n D rfl (World.ownsMap.alloc hmp _) _ _ rfl (keyOf_int_mk Try.underlying3 hwf) ?_; intro cc hat hwc; have HCC := hide (tab_get (unhide HT) (unhide hmem) hat); clear hat) | (at_builtin; refine wpList_append_own _ rfl _ _ 41 rfl w0.heap.size 98 i0 _ 3 32 Try.underlying41 hi hz0 hz1 hz2 rfl (by decide) _ _ _ rfl (World.ownsRow.alloc (World.ownsRow.alloc hown _) _) ⟨wr.heap.size + 1, 0, none⟩ 1 1 [.int .i64 c.k, .int .i64 cc, .string c.s] rfl rfl ?c1 ?c2 ?c3 ?c4 ?c5 ?_))
        case c1 =>
          intro j u hj
          have := cell_three_new (wr.alloc (.cells #[.int .i64 c.k, .int .i64 cc, .string c.s] 98)) _ _ _ 98 j u hj
          rw [World.size_alloc] at this
          exact this
        case c2 => intro u hu; simp at hu; rcases hu with rfl | rfl | rfl <;> rfl
        case c3 => unfold maxLen; omega
        case c4 => omega
        case c5 => have := hB0.size; simp; omega
        · intro v' w2 hown' hgrow _
          have R := app_cell (c := ⟨c.k, cc, c.s⟩) (hB0.alloc hB0.size _) (Nat.le_refl _) (World.ownsRow.alloc hown _) hown' hgrow
          clear hown' hgrow hown c0 c1 c2 hmp
          go_wp2
          go_roundw
          case rel => exact ⟨k + 1, by omega, by go_num, by rw [unhide HS, unhide HK, unhide HCC]; exact R.1, R.2⟩
          case measure => simp [intOf]; omega
      · have hb : (c.k == 1) = false := by simpa using hk1
        have HK := hide (canonC_other (z := z) hk1)
        clear hk1
        go_wp2_with (at_builtin; refine wpList_append_own _ rfl _ _ 41 rfl w0.heap.size 98 i0 _ 3 32 Try.underlying41 hi hz0 hz1 hz2 rfl (by decide) _ _ _ rfl (World.ownsRow.alloc (World.ownsRow.alloc hown _) _) ⟨wr.heap.size + 1, 0, none⟩ 1 1 [.int .i64 c.k, .int .i64 c.n, .string c.s] rfl rfl ?d1 ?d2 ?d3 ?d4 ?d5 ?_)
        case d1 =>
          intro j u hj
          have := cell_three_new (wr.alloc (.cells #[.int .i64 c.k, .int .i64 c.n, .string c.s] 98)) _ _ _ 98 j u hj
          rw [World.size_alloc] at this
          exact this
        case d2 => intro u hu; simp at hu; rcases hu with rfl | rfl | rfl <;> rfl
        case d3 => unfold maxLen; omega
        case d4 => omega
        case d5 => have := hB0.size; simp; omega
        · intro v' w2 hown' hgrow _
          have R := app_cell (c := c) (hB0.alloc hB0.size _) (Nat.le_refl _) (World.ownsRow.alloc hown _) hown' hgrow
          clear hown' hgrow hown c0 c1 c2 hmp
          go_wp2
          go_roundw
          case rel => exact ⟨k + 1, by omega, by go_num, by rw [unhide HS, unhide HK]; exact R.1, R.2⟩
          case measure => simp [intOf]; omega
    · rw [List.take_of_length_le (by omega)] at hown
      have hO := canon_done hown (unhide HZ) hb0.size
      go_wp2
      go_ret
      exact ⟨_, rfl, hO, hB⟩

set_option maxHeartbeats 400000 in
theorem TrmCanon_none (ao : Option Addr) (cap : Nat) (w : World) :
    Calls Try.prog 95 #[.slice ao 0 cap] w fun e w' => ∃ v, e = .returned v ∧ OwnC w' w.heap.size v (canonOf []) ∧ Below w.heap.size w w' := by
  go_enter Try.func95, Try.ntmps95
  go_wp2_with fail
  refine (numberVars_none _ _ _).mono ?_
  rintro e w0 ⟨v0, rfl, hv0, _, hb0⟩
  go_wp2
  refine wp_loop_rounds 1 ?_
  rw [rounds_succ]
  go_wp2
  go_ret
  exact ⟨_, rfl, World.ownsRow_nil _ _ _ _, hb0⟩

/-- The program's TrmCanon, of whatever places. -/
theorem TrmCanon_any (ao : Option Addr) (cap : Nat) (t : List C) (w : World) (hm : t.length ≤ 1048576) (hA : Row w ao t) (hw : WfC t) :
    Calls Try.prog 95 #[.slice ao t.length cap] w fun e w' => ∃ v, e = .returned v ∧ OwnC w' w.heap.size v (canonOf t) ∧ Below w.heap.size w w' := by
  rcases hA with rfl | ⟨b, off, rfl, hA⟩
  · exact TrmCanon_none ao cap w
  · exact TrmCanon_some b off cap t w hm hA hw
end Go.Proofs.Ytkedckmpjedjoaa

/- The walk of the program's TrmOk. -/
namespace Go.Proofs.Ytkedckmpjedjoaa
open Go.RowKit
set_option linter.unusedVariables false
set_option linter.unusedSimpArgs false

theorem goes_step {t : List C} {k : Nat} (h : k < t.length) (x : Int) (hx : x ≠ 0) (ho : okC t[k] = true) : goes x (t.drop k) = goes (x + (ari t[k] - 1)) (t.drop (k + 1)) := by
  rw [List.drop_eq_getElem_cons h]; simp [goes, hx, ho]
theorem goes_zero {t : List C} {k : Nat} (h : k < t.length) : goes 0 (t.drop k) = false := by
  rw [List.drop_eq_getElem_cons h]; simp [goes]
theorem goes_bad {t : List C} {k : Nat} (h : k < t.length) (x : Int) (ho : okC t[k] = false) : goes x (t.drop k) = false := by
  rw [List.drop_eq_getElem_cons h]; simp [goes, ho]
theorem goes_end {t : List C} {k : Nat} (h : ¬ k < t.length) (x : Int) : goes x (t.drop k) = decide (x = 0) := by
  rw [List.drop_eq_nil_iff.2 (by omega)]; rfl

theorem trm_of {t : List C} (h : t.length ≤ 40) {b : Bool} (hg : goes 1 t = b) : trm t = b := by simp [trm, h, hg]
theorem trm_long {t : List C} (h : ¬ t.length ≤ 40) : trm t = false := by simp [trm, h]

set_option maxHeartbeats 1000000 in
theorem TrmOk_some (b off cap : Nat) (t : List C) (w : World) (hm : t.length ≤ maxLen) (hA : At w b off t) (hF : Fit t) :
    Calls Try.prog 82 #[.slice (some ⟨b, off, none⟩) t.length cap] w fun e w' => e = .returned (.bool (trm t)) ∧ Below w.heap.size w w' := by
  unfold maxLen at hm
  by_cases h40 : t.length ≤ 40
  · go_enter Try.func82, Try.ntmps82
    go_wp2
    go_loopw [3, 11] (fun m i wr => ∃ (k : Nat) (x : Int), k ≤ t.length ∧ i = .int .i64 k ∧ m = .int .i64 x ∧ 0 ≤ x ∧ x ≤ 1 + 3 * k ∧ goes 1 t = goes x (t.drop k) ∧ Below w.heap.size w wr) (fun _ i _ => t.length - (intOf i).toNat)
    case atStart => exact ⟨0, 1, Nat.zero_le _, rfl, rfl, by omega, by omega, rfl, Below.refl _ _⟩
    case round =>
      obtain ⟨k, x, hk, rfl, rfl, hx0, hx1, hg, hB⟩ := hrel
      have H : Hid (goes 1 t = goes x (t.drop k)) := hg
      clear hg
      by_cases hlt : k < t.length
      · obtain ⟨c0, c1, c2⟩ := (hA.below hB) k hlt
        have hs := hF.get k hlt
        obtain ⟨c, hc⟩ : ∃ c, c = t[k] := ⟨_, rfl⟩
        rw [← hc] at c0 c1 c2 hs
        have HC : Hid (c = t[k]) := hc
        clear hc
        by_cases hx : x = 0
        · have hxb : (x == 0) = true := by simpa using hx
          go_wp2
          go_ret
          refine ⟨ret_bool ?_, hB.alloc hB.size _⟩
          rw [trm_of h40 H.out, hx, goes_zero hlt]
        · have hxb : (x == 0) = false := by simpa using hx
          cases ho : okC c with
          | false =>
            go_wp2_with fail
            refine (cellOk_any c _ hs).mono ?_
            rintro e w1 ⟨rfl, hb1⟩
            go_wp2
            go_ret
            refine ⟨ret_bool ?_, (hB.alloc hB.size _).trans (hb1.mono (by have := hB.size; simp; omega))⟩
            rw [trm_of h40 H.out, goes_bad hlt x (by rw [← HC.out]; exact ho)]
          | true =>
            have hari := ari_ok ho
            go_wp2_with fail
            refine (cellOk_any c _ hs).mono ?_
            rintro e w1 ⟨rfl, hb1⟩
            have hq0 := hb1.cell (p := ⟨wr.heap.size, 0, none⟩) (by simp)
            have hq1 := hb1.cell (p := ⟨wr.heap.size, 1, none⟩) (by simp)
            have hq2 := hb1.cell (p := ⟨wr.heap.size, 2, none⟩) (by simp)
            go_wp2_with fail
            refine (cellArity_any c _).mono ?_
            rintro e w2 ⟨rfl, hb2⟩
            clear hq0 hq1 hq2 c0 c1 c2
            go_wp2
            go_roundw
            case rel =>
              refine ⟨k + 1, x + (ari c - 1), by omega, by go_num, by go_num, by omega, by omega, ?_, ((hB.alloc hB.size _).trans (hb1.mono (by have := hB.size; simp; omega))).trans (hb2.mono (by have := hB.size; have := hb1.size; simp at this; omega))⟩
              rw [H.out, goes_step hlt x hx (by rw [← HC.out]; exact ho), HC.out]
            case measure => simp [intOf]; omega
      · go_wp2
        go_ret
        refine ⟨ret_bool ?_, hB⟩
        rw [trm_of h40 H.out, goes_end hlt]
        rfl
  · go_enter Try.func82, Try.ntmps82
    go_wp2
    go_ret
    exact ⟨ret_bool (trm_long h40).symm, Below.refl _ _⟩

set_option maxHeartbeats 400000 in
theorem TrmOk_none (ao : Option Addr) (cap : Nat) (w : World) :
    Calls Try.prog 82 #[.slice ao 0 cap] w fun e w' => e = .returned (.bool false) ∧ Below w.heap.size w w' := by
  go_enter Try.func82, Try.ntmps82
  go_wp2
  refine wp_loop_rounds 1 ?_
  rw [rounds_succ]
  go_wp2
  go_ret
  exact ⟨rfl, Below.refl _ _⟩

/-- The program's TrmOk, of whatever places: whether they are a term. -/
theorem TrmOk_any (ao : Option Addr) (cap : Nat) (t : List C) (w : World) (hm : t.length ≤ maxLen) (hA : Row w ao t) (hF : Fit t) :
    Calls Try.prog 82 #[.slice ao t.length cap] w fun e w' => e = .returned (.bool (trm t)) ∧ Below w.heap.size w w' := by
  rcases hA with rfl | ⟨b, off, rfl, hA⟩
  · rw [trm_nil]; exact TrmOk_none ao cap w
  · exact TrmOk_some b off cap t w hm hA hF
end Go.Proofs.Ytkedckmpjedjoaa
