import Derived.Test.YtajkmebjmdolaaaDoorQOK3
import Derived.Test.YtajkmebjmdolaaaDoorQW6SB2SB3D1D2
import Derived.Test.YtajkmebjmdolaaaDoorQW5
import Derived.Deep.RegionHeld3
import Derived.Test.YtajkmebjmdolaaaDoorQOpen5Plain4PB1
/- The laws' helpers over outcomes, the walk of FnExactOutOk. -/
namespace Go.Proofs.YtajkmebjmdolaaaDoor
open Go.RowKit
set_option linter.unusedVariables false
set_option linter.unusedSimpArgs false

set_option maxHeartbeats 400000 in
theorem szSlvOut_any (v : Int) (ao : Option Addr) (cap : Nat) (t : List C) (l : Int) (w : World) (hm : t.length ≤ maxLen) (hA : Row w ao t) (hF : Fit t) (h0 : 0 ≤ l) (h1 : l ≤ 1048576) :
    Calls Tryd.prog 11 #[.agg #[.int .i64 v, .slice ao t.length cap], .int .i64 l] w fun e w' => ∃ r : Int, e = .returned (.int .i64 r) ∧ (r < 0 ∨ (0 ≤ r ∧ r + t.length ≤ l)) ∧ Below w.heap.size w w' := by
  go_enter Tryd.func11, Tryd.ntmps11
  go_wp2_with fail
  refine (szTrmCellS_any ao cap t l _ hm (hA.below (cell_below _ _)) hF h0 h1).mono ?_
  rintro e w1 ⟨r, rfl, hr, hb1⟩
  have hB := bstep (cell_below _ _) hb1
  by_cases hn : r < 0
  · go_wp2
    go_ret
    exact ⟨_, rfl, by omega, hB⟩
  · go_wp2
    go_ret
    exact ⟨_, rfl, by omega, hB⟩


set_option maxHeartbeats 400000 in
theorem toSlvOut_any (v : Int) (ao : Option Addr) (cap : Nat) (t : List C) (w : World) (hm : t.length ≤ 1048576) (hA : Row w ao t) :
    Calls Tryd.prog 14 #[.agg #[.int .i64 v, .slice ao t.length cap]] w fun e w' => ∃ g, e = .returned (.agg #[.int .i64 v, .slice (some ⟨g, 0, none⟩) t.length t.length]) ∧ g < w'.heap.size ∧ w'.ownsRow w.heap.size 57 3 (.slice (some ⟨g, 0, none⟩) t.length t.length) t.length (flat t) ∧ Below w.heap.size w w' := by
  go_enter Tryd.func14, Tryd.ntmps14
  go_wp2_with fail
  obtain ⟨W, hW⟩ : ∃ W, W = ((w.alloc (Obj.cells #[Value.int IntKind.i64 v, Value.slice ao t.length cap] 34)).alloc (Obj.cells #[Value.int IntKind.i64 0, Value.slice none 0 0] 40)).alloc (Obj.cells #[Value.int IntKind.i64 v, Value.slice none 0 0] 40) := ⟨_, rfl⟩
  have hB0 : Below w.heap.size w W := by rw [hW]; exact below3 _ _ _ _
  have hsz : W.heap.size = w.heap.size + 3 := by rw [hW]; simp
  have c0 : W.cell? ⟨w.heap.size + 1 + 1, 0, none⟩ = some (.int .i64 v) := by rw [hW]; simp [go_sem]
  have c1 : W.cell? ⟨w.heap.size + 1 + 1, 1, none⟩ = some (.slice none 0 0) := by rw [hW]; simp [go_sem]
  have f1 : W.frozen? ⟨w.heap.size + 1 + 1, 1, none⟩ = false := by rw [hW]; simp [go_sem]
  have c2 : W.cell? ⟨w.heap.size + 1, 0, none⟩ = some (.int .i64 0) := by rw [hW]; simp [go_sem]
  have c3 : W.cell? ⟨w.heap.size + 1, 1, none⟩ = some (.slice none 0 0) := by rw [hW]; simp [go_sem]
  have f2 : W.frozen? ⟨w.heap.size + 1, 0, none⟩ = false := by rw [hW]; simp [go_sem]
  have f3 : W.frozen? ⟨w.heap.size + 1, 1, none⟩ = false := by rw [hW]; simp [go_sem]
  rw [← hW]
  clear hW
  refine (toTrmCellS_any ao cap t W hm (hA.below hB0)).mono ?_
  rintro e w1 ⟨rfl, ho1, hb1⟩
  have d0 := (hb1.cell (p := ⟨w.heap.size + 1 + 1, 0, none⟩) (by simp; omega)).trans c0
  have d1 := (hb1.cell (p := ⟨w.heap.size + 1 + 1, 1, none⟩) (by simp; omega)).trans c1
  have d2 := (hb1.cell (p := ⟨w.heap.size + 1, 0, none⟩) (by simp; omega)).trans c2
  have d3 := (hb1.cell (p := ⟨w.heap.size + 1, 1, none⟩) (by simp; omega)).trans c3
  have g1 := (hb1.frozen (p := ⟨w.heap.size + 1 + 1, 1, none⟩) (by simp; omega)).trans f1
  have g2 := (hb1.frozen (p := ⟨w.heap.size + 1, 0, none⟩) (by simp; omega)).trans f2
  have g3 := (hb1.frozen (p := ⟨w.heap.size + 1, 1, none⟩) (by simp; omega)).trans f3
  have hb2 := bstep hB0 hb1
  have hgl := ho1.lt W.heap.size rfl
  clear c0 c1 f1 c2 c3 f2 f3
  go_wp2
  refine bodyPost_ret (v := .agg #[.int .i64 v, .slice (some ⟨W.heap.size, 0, none⟩) t.length t.length]) (by simp [results, Tryd.results14, go_sem, *]) rfl ⟨_, rfl, ?_, ?_, ?_⟩
  · simp; omega
  · refine own_lo (base := W.heap.size) (own_block ho1 (fun k e => ?_)) (fun k e => ?_)
    · have e' : W.heap.size = k := by simpa [Value.ownBlock] using e
      rw [Below.heap_setCell _ _ _ _ (by simp; omega), Below.heap_setCell _ _ _ _ (by simp; omega), Below.heap_setCell _ _ _ _ (by simp; omega)]
    · have e' : W.heap.size = k := by simpa [Value.ownBlock] using e
      omega
  · exact ((hb2.setCell (p := ⟨w.heap.size + 1 + 1, 1, none⟩) (by simp; omega) _).setCell (p := ⟨w.heap.size + 1, 0, none⟩) (by simp) _).setCell (p := ⟨w.heap.size + 1, 1, none⟩) (by simp) _

set_option maxRecDepth 100000 in
set_option maxHeartbeats 400000 in
theorem eqSlvOut_yes (v : Int) (ao bo : Option Addr) (cap cap' : Nat) (t : List C) (w : World) (hm : t.length ≤ maxLen) (hA : Row w ao t) (hU : Row w bo t) :
    Calls Tryd.prog 17 #[.agg #[.int .i64 v, .slice ao t.length cap], .agg #[.int .i64 v, .slice bo t.length cap']] w fun e w' => e = .returned (.bool true) ∧ Below w.heap.size w w' := by
  have hne : (v != v) = false := by simp
  go_enter Tryd.func17, Tryd.ntmps17
  go_wp2_with fail
  refine (eqTrmCellS_any ao bo cap cap' t t _ hm (hA.below (below2 _ _ _)) (hU.below (below2 _ _ _))).mono ?_
  rw [sameS_yes rfl]
  rintro e w1 ⟨rfl, hb1⟩
  have hB := bstep (below2 _ _ _) hb1
  go_wp2
  go_ret
  exact ⟨rfl, hB⟩



theorem out_own {w : World} {base g : Nat} {t : List C} (h : w.ownsRow base 57 3 (.slice (some ⟨g, 0, none⟩) t.length t.length) t.length (flat t)) (hF : Fit t) (hw : WfC t) (hl : t.length ≤ 1048576) : OutM w (some ⟨g, 0, none⟩) t.length t :=
  ⟨row_of_own h, hF, hw, hl, Nat.le_refl _, by unfold maxLen; omega⟩
theorem out_td {w : World} {base g : Nat} {t : List C} (h : w.ownsRow base 57 3 (.slice (some ⟨g, 0, none⟩) t.length t.length) t.length (flat t)) : trm t = true → TdT w (.slice (some ⟨g, 0, none⟩) t.length t.length) t :=
  fun ht => own_tdT (base := base) h (trm_len ht).1

end Go.Proofs.YtajkmebjmdolaaaDoor

/- The plain mathematics of a term's text: as a tree has it, and as places are gone through with what is open. -/
namespace Go.Proofs.YtajkmebjmdolaaaDoor
set_option linter.unusedVariables false
set_option linter.unusedSimpArgs false

def lpB : ByteArray := ByteArray.mk #[40]
def rpB : ByteArray := ByteArray.mk #[41]
def cmB : ByteArray := ByteArray.mk #[44]

/-- Texts with a comma between two. -/
def joinB : List ByteArray → ByteArray
  | [] => ByteArray.empty
  | [u] => u
  | u :: v :: r => u ++ cmB ++ joinB (v :: r)

/-- A tree's text, by the words of its places. -/
inductive Txt (wd : C → ByteArray) : List C → ByteArray → Prop
  | leaf {c : C} : ari c = 0 → Txt wd [c] (wd c)
  | node {c : C} {ks : List (List C)} {us : List ByteArray} : ks ≠ [] → (ks.length : Int) = ari c → us.length = ks.length → (∀ i (h1 : i < ks.length) (h2 : i < us.length), Txt wd ks[i] us[i]) → Txt wd (c :: ks.flatten) (wd c ++ lpB ++ joinB us ++ rpB)

/-- What is closed behind a place that is whole. -/
def closeB : ByteArray → List Int → ByteArray × List Int
  | s, [] => (s, [])
  | s, n :: o => if n = 1 then closeB (s ++ rpB) o else (s ++ cmB, (n - 1) :: o)

/-- Places gone through: the text so far, and how many arguments are still to come of each name that is open, the last one first. -/
def mach (wd : C → ByteArray) : List C → ByteArray → List Int → ByteArray × List Int
  | [], s, o => (s, o)
  | c :: t, s, o => if c.k = 3 ∧ 0 < c.n then mach wd t (s ++ wd c ++ lpB) (c.n :: o) else mach wd t (closeB (s ++ wd c) o).1 (closeB (s ++ wd c) o).2

theorem ari_pos {c : C} (h : 0 < ari c) : c.k = 3 ∧ c.n = ari c := by
  unfold ari at h ⊢
  split at h
  · rename_i h3; exact ⟨h3, by rw [if_pos h3]⟩
  · omega
theorem ari_zero {c : C} (h : ari c = 0) : ¬ (c.k = 3 ∧ 0 < c.n) := fun ⟨h1, h2⟩ => by
  unfold ari at h
  rw [if_pos h1] at h
  omega

theorem mach_kids {wd : C → ByteArray} : ∀ (ks : List (List C)) (us : List ByteArray), ks ≠ [] → us.length = ks.length →
    (∀ i (h1 : i < ks.length) (h2 : i < us.length), ∀ rest s o, mach wd (ks[i] ++ rest) s o = mach wd rest (closeB (s ++ us[i]) o).1 (closeB (s ++ us[i]) o).2) →
    ∀ rest s o, mach wd (ks.flatten ++ rest) s ((ks.length : Int) :: o) = mach wd rest (closeB (s ++ joinB us ++ rpB) o).1 (closeB (s ++ joinB us ++ rpB) o).2
  | [k], [u], _, _, h, rest, s, o => by
      have := h 0 (by simp) (by simp) rest s (1 :: o)
      simp only [List.getElem_cons_zero] at this
      simp only [List.flatten_cons, List.flatten_nil, List.append_nil, List.length_cons, List.length_nil]
      rw [show (((0 + 1 : Nat)) : Int) = 1 by rfl, this]
      simp [closeB, joinB]
  | k :: k' :: ks, u :: u' :: us, _, hl, h, rest, s, o => by
      have h0 := h 0 (by simp) (by simp) ((k' :: ks).flatten ++ rest) s (((k :: k' :: ks).length : Int) :: o)
      simp only [List.getElem_cons_zero] at h0
      have ih := mach_kids (k' :: ks) (u' :: us) (by simp) (by simpa using hl) (fun i h1 h2 => h (i + 1) (Nat.succ_lt_succ h1) (Nat.succ_lt_succ h2)) rest (s ++ u ++ cmB) o
      rw [List.flatten_cons, List.append_assoc, h0]
      have hne : ¬ (((k :: k' :: ks).length : Int) = 1) := by simp only [List.length_cons]; omega
      simp only [closeB, if_neg hne]
      rw [show ((k :: k' :: ks).length : Int) - 1 = ((k' :: ks).length : Int) by simp only [List.length_cons]; omega, ih]
      simp only [joinB, ByteArray.append_assoc]
  | [], _, h, _, _, _, _, _ => absurd rfl h
  | [_], [], _, h, _, _, _, _ => by simp at h
  | [_], _ :: _ :: _, _, h, _, _, _, _ => by simp at h
  | _ :: _ :: _, [], _, h, _, _, _, _ => by simp at h
  | _ :: _ :: _, [_], _, h, _, _, _, _ => by simp at h

theorem mach_txt {wd : C → ByteArray} {t : List C} {u : ByteArray} (h : Txt wd t u) : ∀ rest s o, mach wd (t ++ rest) s o = mach wd rest (closeB (s ++ u) o).1 (closeB (s ++ u) o).2 := by
  induction h with
  | leaf h0 =>
    intro rest s o
    rw [List.singleton_append, mach, if_neg (ari_zero h0)]
  | @node c ks us hne hl hu hk ih =>
    intro rest s o
    have hp : 0 < ks.length := List.length_pos_iff.2 hne
    obtain ⟨h3, hn⟩ := ari_pos (c := c) (by omega)
    rw [List.cons_append, mach, if_pos ⟨h3, by omega⟩, hn, ← hl, mach_kids ks us hne hu ih]
    simp only [ByteArray.append_assoc]

/-- A term's text. -/
def textOf (wd : C → ByteArray) (t : List C) : ByteArray := (mach wd t ByteArray.empty []).1
theorem textOf_of {wd : C → ByteArray} {t : List C} {u : ByteArray} (h : Txt wd t u) : textOf wd t = u := by
  have := mach_txt h [] ByteArray.empty []
  rw [List.append_nil] at this
  unfold textOf
  rw [this]
  simp [mach, closeB]

theorem txt_all (wd : C → ByteArray) : ∀ (f : Nat) (t : List C), Tm f t → ∃ u, Txt wd t u
  | f + 1, t, ⟨c, ks, e, hl, hk⟩ => by
      subst e
      by_cases h0 : ks = []
      · subst h0
        exact ⟨wd c, by simpa using Txt.leaf (by simpa using hl.symm)⟩
      · have all : ∀ (l : List (List C)), (∀ k ∈ l, Tm f k) → ∃ us : List ByteArray, us.length = l.length ∧ ∀ i (h1 : i < l.length) (h2 : i < us.length), Txt wd l[i] us[i] := by
          intro l
          induction l with
          | nil => exact fun _ => ⟨[], rfl, fun i h => by simp at h⟩
          | cons x l ih =>
            intro hx
            obtain ⟨us, h1, h2⟩ := ih (fun k hk => hx k (by simp [hk]))
            obtain ⟨u, hu⟩ := txt_all wd f x (hx x (by simp))
            refine ⟨u :: us, by simp [h1], fun i a b => ?_⟩
            cases i with
            | zero => exact hu
            | succ i => exact h2 i (by simpa using a) (by simpa using b)
        obtain ⟨us, h1, h2⟩ := all ks hk
        exact ⟨_, .node h0 hl h1 h2⟩
end Go.Proofs.YtajkmebjmdolaaaDoor
