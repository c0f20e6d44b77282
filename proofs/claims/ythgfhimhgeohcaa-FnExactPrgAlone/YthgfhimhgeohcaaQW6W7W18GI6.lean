import Derived.Test.YthgfhimhgeohcaaQW4Plain2G1
import Derived.Test.YthgfhimhgeohcaaQW5
import Derived.Laws.StructEq
import Derived.Deep.QuietTactic
import Derived.BigQuiet
import Derived.WalkSmall
import Derived.Test.YthgfhimhgeohcaaQW10W13
import Derived.Test.YthgfhimhgeohcaaQGI5
import Derived.Deep.RegionHeld3
/- eqTrmCellS of whatever places; the walk of the law FnExactTrmOk. -/
namespace Go.Proofs.Ythgfhimhgeohcaa
open Go.RowKit
set_option linter.unusedVariables false
set_option linter.unusedSimpArgs false

set_option maxHeartbeats 400000 in
theorem eqTrmCellS_far (ao bo : Option Addr) (n m cap cap' : Nat) (w : World) (hl : n ≠ m) :
    Calls Try.prog 20 #[.slice ao n cap, .slice bo m cap'] w fun e w' => e = .returned (.bool false) ∧ Below w.heap.size w w' := by
  have hne : ((n : Int) != (m : Int)) = true := by rw [bne_iff_ne]; omega
  go_enter Try.func20, Try.ntmps20
  go_wp2
  go_ret
  exact ⟨rfl, Below.refl _ _⟩

set_option maxHeartbeats 400000 in
theorem eqTrmCellS_none (ao bo : Option Addr) (cap cap' : Nat) (w : World) :
    Calls Try.prog 20 #[.slice ao 0 cap, .slice bo 0 cap'] w fun e w' => e = .returned (.bool true) ∧ Below w.heap.size w w' := by
  go_enter Try.func20, Try.ntmps20
  go_wp2
  refine wp_loop_rounds 1 ?_
  rw [rounds_succ]
  go_wp2
  go_ret
  exact ⟨rfl, Below.refl _ _⟩

/-- Whether two lists of places are the same. -/
theorem eqTrmCellS_any (ao bo : Option Addr) (cap cap' : Nat) (t u : List C) (w : World) (hm : t.length ≤ maxLen) (hA : Row w ao t) (hU : Row w bo u) :
    Calls Try.prog 20 #[.slice ao t.length cap, .slice bo u.length cap'] w fun e w' => e = .returned (.bool (sameS t u)) ∧ Below w.heap.size w w' := by
  by_cases hl : t.length = u.length
  · rcases hA with rfl | ⟨b, off, rfl, hA⟩
    · have hu : u = [] := List.length_eq_zero_iff.1 hl.symm
      subst hu
      exact eqTrmCellS_none ao bo cap cap' w
    · rcases hU with rfl | ⟨b', off', rfl, hU⟩
      · have ht : t = [] := List.length_eq_zero_iff.1 hl
        subst ht
        exact eqTrmCellS_none _ bo cap cap' w
      · exact eqTrmCellS_some b off cap b' off' cap' t u w hm hA hU hl
  · rw [sameS_no (fun h => hl (by rw [h]))]
    exact eqTrmCellS_far ao bo _ _ cap cap' w hl

theorem row_of_own {w : World} {base e g cap : Nat} {t : List C} (h : w.ownsRow base e 3 (.slice (some ⟨g, 0, none⟩) t.length cap) t.length (flat t)) : Row w (some ⟨g, 0, none⟩) t :=
  .inr ⟨g, 0, rfl, owns_at h rfl⟩

end Go.Proofs.Ythgfhimhgeohcaa

/- The walks of TrmSame, of the model and of the program (slices.Equal). -/
namespace Go.Proofs.Ythgfhimhgeohcaa
open Go.RowKit
set_option linter.unusedVariables false
set_option linter.unusedSimpArgs false

theorem Try.heldCell : Try.prog.stoodInHeld 94 = false := by kernel_rfl
theorem Try.fieldsCell : Try.prog.underlying 94 = some (.struct (Try.prog.fieldsOf 94)) := by kernel_rfl
theorem Try.guardCell : Try.prog.eqGuardType Try.prog.depth 94 = false := by kernel_rfl

theorem neq_cell (c d : C) (w : World) : (binOp .neq 94 (.agg #[.int .i64 c.k, .int .i64 c.n, .string c.s]) (.agg #[.int .i64 d.k, .int .i64 d.n, .string d.s])).run Try.prog w = .ok (.bool (!same c d)) w := by
  rw [run_neq_struct, run_equalIn_agg w 9999 94 _ _ Try.fieldsCell Try.heldCell]
  by_cases h1 : c.k = d.k
  · by_cases h2 : c.n = d.n
    · simp [Program.fieldsOf, Try.underlying94, Op.eqFields, go_sem, same, h1, h2, ByteArray.toList_eq]
      by_cases h3 : c.s.data = d.s.data
      · simp [h3]
      · simp [h3]
    · simp [Program.fieldsOf, Try.underlying94, Op.eqFields, go_sem, same, h1, h2]
  · simp [Program.fieldsOf, Try.underlying94, Op.eqFields, go_sem, same, h1]

set_option maxHeartbeats 1000000 in
theorem specTrmSame_some (b off cap b' off' cap' : Nat) (t u : List C) (w : World) (hm : t.length ≤ maxLen) (hA : At w b off t) (hU : At w b' off' u) (hl : t.length = u.length) :
    Calls Try.prog 103 #[.slice (some ⟨b, off, none⟩) t.length cap, .slice (some ⟨b', off', none⟩) u.length cap'] w fun e w' => e = .returned (.bool (sameS t u)) ∧ Below w.heap.size w w' := by
  unfold maxLen at hm
  have hne : ((t.length : Int) != (u.length : Int)) = false := by simp; omega
  have hul : u.length ≤ 2 ^ 63 - 1 := by omega
  have HL := hide hl
  clear hl
  go_enter Try.func103, Try.ntmps103
  go_wp2
  go_loopw [5] (fun i wr => ∃ (k : Nat), k ≤ t.length ∧ i = .int .i64 k ∧ t.take k = u.take k ∧ Below w.heap.size w wr) (fun i _ => t.length - (intOf i).toNat)
  case atStart => exact ⟨0, Nat.zero_le _, rfl, rfl, Below.refl _ _⟩
  case round =>
    obtain ⟨k, hk, rfl, hx, hB⟩ := hrel
    have HX := hide hx
    clear hx
    by_cases hlt : k < t.length
    · have hlu : k < u.length := by rw [← unhide HL]; exact hlt
      obtain ⟨c0, c1, c2⟩ := (hA.below hB) k hlt
      obtain ⟨d0, d1, d2⟩ := (hU.below hB) k hlu
      obtain ⟨c, hc⟩ : ∃ c, c = t[k] := ⟨_, rfl⟩
      rw [← hc] at c0 c1 c2
      have HC := hide hc
      clear hc
      obtain ⟨d, hd⟩ : ∃ d, d = u[k] := ⟨_, rfl⟩
      rw [← hd] at d0 d1 d2
      have HD := hide hd
      clear hd
      have hneq := neq_cell c d
      cases hsm : same c d with
      | false =>
        rw [hsm] at hneq
        go_wp2
        go_quiet (fail)
        go_wp2
        go_ret
        refine ⟨ret_bool (sameS_no (fun h => ?_)).symm, ?_⟩
        · have e : c = d := by rw [unhide HC, unhide HD]; simp [h]
          rw [(same_iff c d).2 e] at hsm; cases hsm
        · exact below_drewN hB _
      | true =>
        rw [hsm] at hneq
        go_wp2
        go_quiet (fail)
        go_wp2
        go_roundw
        case rel => exact ⟨k + 1, by omega, by go_num, by rw [List.take_succ_eq_append_getElem hlt, List.take_succ_eq_append_getElem hlu, unhide HX, ← unhide HC, ← unhide HD, (same_iff c d).1 hsm], below_drewN hB _⟩
        case measure => simp [intOf]; omega
    · go_wp2
      go_ret
      refine ⟨ret_bool (sameS_yes ?_).symm, hB⟩
      have := unhide HX
      rw [List.take_of_length_le (by omega), List.take_of_length_le (by rw [← unhide HL]; omega)] at this
      exact this

set_option maxHeartbeats 400000 in
theorem specTrmSame_far (ao bo : Option Addr) (n m cap cap' : Nat) (w : World) (hl : n ≠ m) :
    Calls Try.prog 103 #[.slice ao n cap, .slice bo m cap'] w fun e w' => e = .returned (.bool false) ∧ Below w.heap.size w w' := by
  have hne : ((n : Int) != (m : Int)) = true := by rw [bne_iff_ne]; omega
  go_enter Try.func103, Try.ntmps103
  go_wp2
  go_ret
  exact ⟨rfl, Below.refl _ _⟩

set_option maxHeartbeats 400000 in
theorem specTrmSame_none (ao bo : Option Addr) (cap cap' : Nat) (w : World) :
    Calls Try.prog 103 #[.slice ao 0 cap, .slice bo 0 cap'] w fun e w' => e = .returned (.bool true) ∧ Below w.heap.size w w' := by
  go_enter Try.func103, Try.ntmps103
  go_wp2
  refine wp_loop_rounds 1 ?_
  rw [rounds_succ]
  go_wp2
  go_ret
  exact ⟨rfl, Below.refl _ _⟩

theorem specTrmSame_any (ao bo : Option Addr) (cap cap' : Nat) (t u : List C) (w : World) (hm : t.length ≤ maxLen) (hA : Row w ao t) (hU : Row w bo u) :
    Calls Try.prog 103 #[.slice ao t.length cap, .slice bo u.length cap'] w fun e w' => e = .returned (.bool (sameS t u)) ∧ Below w.heap.size w w' := by
  by_cases hl : t.length = u.length
  · rcases hA with rfl | ⟨b, off, rfl, hA⟩
    · have hu : u = [] := List.length_eq_zero_iff.1 hl.symm
      subst hu
      exact specTrmSame_none ao bo cap cap' w
    · rcases hU with rfl | ⟨b', off', rfl, hU⟩
      · have ht : t = [] := List.length_eq_zero_iff.1 hl
        subst ht
        exact specTrmSame_none _ bo cap cap' w
      · exact specTrmSame_some b off cap b' off' cap' t u w hm hA hU hl
  · rw [sameS_no (fun h => hl (by rw [h]))]
    exact specTrmSame_far ao bo _ _ cap cap' w hl

set_option maxHeartbeats 1000000 in
theorem slicesEqual_some (b off cap b' off' cap' : Nat) (t u : List C) (w : World) (hm : t.length ≤ maxLen) (hA : At w b off t) (hU : At w b' off' u) (hl : t.length = u.length) :
    Calls Try.prog 139 #[.slice (some ⟨b, off, none⟩) t.length cap, .slice (some ⟨b', off', none⟩) u.length cap'] w fun e w' => e = .returned (.bool (sameS t u)) ∧ Below w.heap.size w w' := by
  unfold maxLen at hm
  have hne : ((t.length : Int) != (u.length : Int)) = false := by simp; omega
  have hul : u.length ≤ 2 ^ 63 - 1 := by omega
  have HL := hide hl
  clear hl
  go_enter Try.func139, Try.ntmps139
  go_wp2
  go_loopw [5, 13] (fun _ i wr => ∃ (k : Nat), k ≤ t.length ∧ i = .int .i64 k ∧ t.take k = u.take k ∧ Below w.heap.size w wr) (fun _ i _ => t.length - (intOf i).toNat)
  case atStart => exact ⟨0, Nat.zero_le _, rfl, rfl, Below.refl _ _⟩
  case round =>
    obtain ⟨k, hk, rfl, hx, hB⟩ := hrel
    have HX := hide hx
    clear hx
    by_cases hlt : k < t.length
    · have hlu : k < u.length := by rw [← unhide HL]; exact hlt
      obtain ⟨c0, c1, c2⟩ := (hA.below hB) k hlt
      obtain ⟨d0, d1, d2⟩ := (hU.below hB) k hlu
      obtain ⟨c, hc⟩ : ∃ c, c = t[k] := ⟨_, rfl⟩
      rw [← hc] at c0 c1 c2
      have HC := hide hc
      clear hc
      obtain ⟨d, hd⟩ : ∃ d, d = u[k] := ⟨_, rfl⟩
      rw [← hd] at d0 d1 d2
      have HD := hide hd
      clear hd
      have hneq := neq_cell c d
      cases hsm : same c d with
      | false =>
        rw [hsm] at hneq
        go_wp2
        go_quiet (fail)
        go_wp2
        go_ret
        refine ⟨ret_bool (sameS_no (fun h => ?_)).symm, ?_⟩
        · have e : c = d := by rw [unhide HC, unhide HD]; simp [h]
          rw [(same_iff c d).2 e] at hsm; cases hsm
        · exact below_drewN hB _
      | true =>
        rw [hsm] at hneq
        go_wp2
        go_quiet (fail)
        go_wp2
        go_roundw
        case rel => exact ⟨k + 1, by omega, by go_num, by rw [List.take_succ_eq_append_getElem hlt, List.take_succ_eq_append_getElem hlu, unhide HX, ← unhide HC, ← unhide HD, (same_iff c d).1 hsm], below_drewN hB _⟩
        case measure => simp [intOf]; omega
    · go_wp2
      go_ret
      refine ⟨ret_bool (sameS_yes ?_).symm, hB⟩
      have := unhide HX
      rw [List.take_of_length_le (by omega), List.take_of_length_le (by rw [← unhide HL]; omega)] at this
      exact this

set_option maxHeartbeats 400000 in
theorem slicesEqual_far (ao bo : Option Addr) (n m cap cap' : Nat) (w : World) (hl : n ≠ m) :
    Calls Try.prog 139 #[.slice ao n cap, .slice bo m cap'] w fun e w' => e = .returned (.bool false) ∧ Below w.heap.size w w' := by
  have hne : ((n : Int) != (m : Int)) = true := by rw [bne_iff_ne]; omega
  go_enter Try.func139, Try.ntmps139
  go_wp2
  go_ret
  exact ⟨rfl, Below.refl _ _⟩

set_option maxHeartbeats 400000 in
theorem slicesEqual_none (ao bo : Option Addr) (cap cap' : Nat) (w : World) :
    Calls Try.prog 139 #[.slice ao 0 cap, .slice bo 0 cap'] w fun e w' => e = .returned (.bool true) ∧ Below w.heap.size w w' := by
  go_enter Try.func139, Try.ntmps139
  go_wp2
  refine wp_loop_rounds 1 ?_
  rw [rounds_succ]
  go_wp2
  go_ret
  exact ⟨rfl, Below.refl _ _⟩

theorem slicesEqual_any (ao bo : Option Addr) (cap cap' : Nat) (t u : List C) (w : World) (hm : t.length ≤ maxLen) (hA : Row w ao t) (hU : Row w bo u) :
    Calls Try.prog 139 #[.slice ao t.length cap, .slice bo u.length cap'] w fun e w' => e = .returned (.bool (sameS t u)) ∧ Below w.heap.size w w' := by
  by_cases hl : t.length = u.length
  · rcases hA with rfl | ⟨b, off, rfl, hA⟩
    · have hu : u = [] := List.length_eq_zero_iff.1 hl.symm
      subst hu
      exact slicesEqual_none ao bo cap cap' w
    · rcases hU with rfl | ⟨b', off', rfl, hU⟩
      · have ht : t = [] := List.length_eq_zero_iff.1 hl
        subst ht
        exact slicesEqual_none _ bo cap cap' w
      · exact slicesEqual_some b off cap b' off' cap' t u w hm hA hU hl
  · rw [sameS_no (fun h => hl (by rw [h]))]
    exact slicesEqual_far ao bo _ _ cap cap' w hl

set_option maxHeartbeats 400000 in
theorem TrmSame_any (ao bo : Option Addr) (cap cap' : Nat) (t u : List C) (w : World) (hm : t.length ≤ maxLen) (hA : Row w ao t) (hU : Row w bo u) :
    Calls Try.prog 106 #[.slice ao t.length cap, .slice bo u.length cap'] w fun e w' => e = .returned (.bool (sameS t u)) ∧ Below w.heap.size w w' := by
  go_enter Try.func106, Try.ntmps106
  go_wp2_with fail
  refine (slicesEqual_any ao bo cap cap' t u _ hm hA hU).mono ?_
  rintro e w1 ⟨rfl, hb1⟩
  go_wp2
  go_ret
  exact ⟨rfl, hb1⟩
end Go.Proofs.Ythgfhimhgeohcaa

/- The walk of caTerm; treeOf and TrmShift where places are no term. -/
namespace Go.Proofs.Ythgfhimhgeohcaa
open Go.RowKit
set_option linter.unusedVariables false
set_option linter.unusedSimpArgs false

set_option maxHeartbeats 400000 in
theorem treeOf_no (ao : Option Addr) (cap : Nat) (t : List C) (w : World) (hm : t.length ≤ maxLen) (hA : Row w ao t) (hF : Fit t) (hn : trm t = false) :
    Calls Try.prog 105 #[.slice ao t.length cap] w fun e w' => e = .returned (.pointer none) ∧ Below w.heap.size w w' := by
  have H := hide (TrmOk_any ao cap t w hm hA hF)
  rw [hn] at H
  go_enter Try.func105, Try.ntmps105
  go_wp2_with fail
  refine (unhide H).mono ?_
  rintro e w1 ⟨rfl, hb1⟩
  go_wp2
  go_ret
  exact ⟨rfl, hb1⟩

end Go.Proofs.Ythgfhimhgeohcaa

/- A tree of places, or nil; the beginning of goalOf. -/
namespace Go.Proofs.Ythgfhimhgeohcaa
open Go.RowKit Go.Shelf
set_option linter.unusedVariables false
set_option linter.unusedSimpArgs false

/-- A tree of places in blocks from lo to hi. -/
def TreL (lo hi : Nat) (W : World) (p : Nat) (t : List C) : Prop := ∃ z, Tre (fun b => lo ≤ b ∧ b < hi) W 40 p z ∧ z.map (·.2) = t ∧ t.length ≤ 40
theorem treL_up {S : Nat → Prop} {W : World} : ∀ {f g p : Nat} {z : List (Nat × C)}, Tre S W f p z → f ≤ g → Tre S W g p z
  | f + 1, g + 1, p, z, ⟨c, ks, ao, cap, e, hp, hl, hn, hr, hs⟩, h => ⟨c, ks, ao, cap, e, hp, hl, hn, hr, fun k hk => treL_up (hs k hk) (by omega)⟩
theorem TreL.kept {lo hi lo' hi' : Nat} {W W' : World} {p : Nat} {t : List C} (h : TreL lo hi W p t) (hl : lo' ≤ lo) (hh : hi ≤ hi') (hk : ∀ b, lo ≤ b → b < hi → W'.heap[b]? = W.heap[b]?) : TreL lo' hi' W' p t := by
  obtain ⟨z, h1, h2, h3⟩ := h
  exact ⟨z, h1.kept (fun b h => ⟨Nat.le_trans hl h.1, Nat.lt_of_lt_of_le h.2 hh⟩) (fun b h => hk b h.1 h.2), h2, h3⟩
theorem TreL.below {lo : Nat} {W W' : World} {p : Nat} {t : List C} (h : TreL lo W.heap.size W p t) (hb : Below W.heap.size W W') : TreL lo W'.heap.size W' p t := h.kept (Nat.le_refl _) hb.size (fun b _ h2 => hb.block b h2)
theorem TreL.isIn {lo hi : Nat} {W : World} {p : Nat} {t : List C} (h : TreL lo hi W p t) (hh : hi ≤ W.heap.size) : TreIn W p t := by
  obtain ⟨z, h1, h2, h3⟩ := h
  exact ⟨40, z, h1.kept (fun b h => Nat.lt_of_lt_of_le h.2 hh) (fun _ _ => rfl), h2, h3⟩
/-- A tree of these places, or nil where they are none. -/
def Lk (lo : Nat) (w : World) (o : Option Nat) (t : List C) : Prop := (trm t = true ∧ ∃ p, o = some p ∧ TreL lo w.heap.size w p t) ∨ (trm t = false ∧ o = none)
theorem Lk.below {lo : Nat} {w w' : World} {o : Option Nat} {t : List C} (h : Lk lo w o t) (hb : Below w.heap.size w w') : Lk lo w' o t :=
  h.imp_left fun ⟨h1, p, e, h2⟩ => ⟨h1, p, e, h2.below hb⟩
theorem treeOf_opt (lo : Nat) (ao : Option Addr) (cap : Nat) (t : List C) (w : World) (hlo : lo ≤ w.heap.size) (hcap : t.length ≤ cap) (hcm : cap ≤ maxLen) (hA : Row w ao t) (hF : Fit t) :
    Calls Try.prog 105 #[.slice ao t.length cap] w fun e w' => ∃ o, e = .returned (ptrV o) ∧ Lk lo w' o t ∧ Below w.heap.size w w' := by
  cases hy : trm t with
  | false =>
    refine (treeOf_no ao cap t w (Nat.le_trans hcap hcm) hA hF hy).mono ?_
    rintro e w' ⟨rfl, hb⟩
    exact ⟨none, rfl, .inr ⟨hy, rfl⟩, hb⟩
  | true =>
    refine (treeOf_yes 0 ao cap t w hcap hcm (Nat.zero_le _) hA hF hy).mono ?_
    rintro e w' ⟨p, z, rfl, hz, hnd, hT, hb⟩
    exact ⟨some p, rfl, .inl ⟨hy, p, rfl, z, (treL_up hT (trm_len hy).2).kept (W' := w') (fun b h => ⟨Nat.le_trans hlo h.1, h.2⟩) (fun _ _ => rfl), hz, (trm_len hy).2⟩, hb⟩
theorem l3T_fit (t : List C) : l3T t = (trm t && fitT t) := by
  have h : t.any farC = t.any (overC 8) := rfl
  unfold l3T fitT
  rw [h, Bool.and_assoc]

theorem three_new (w : World) (x0 x1 x2 : Value) (T : TypeId) : Below w.heap.size w (w.alloc (.cells #[x0, x1, x2] T)) ∧ (w.alloc (.cells #[x0, x1, x2] T)).cell? ⟨w.heap.size, 0, none⟩ = some x0 ∧ (w.alloc (.cells #[x0, x1, x2] T)).cell? ⟨w.heap.size, 1, none⟩ = some x1 ∧ (w.alloc (.cells #[x0, x1, x2] T)).cell? ⟨w.heap.size, 2, none⟩ = some x2 := by
  have hb : (w.alloc (.cells #[x0, x1, x2] T)).heap[w.heap.size]? = some (.cells #[x0, x1, x2] T) := World.alloc_heap_new w _
  refine ⟨cell_below _ _, ?_, ?_, ?_⟩ <;> (simp only [World.cell?]; rw [hb]; rfl)
/-- The first place's kind, where there is one. -/
def kind0 (t : List C) : Int := match t with | [] => 0 | c :: _ => c.k
theorem Lk.kind {lo : Nat} {w : World} {o : Option Nat} {t : List C} (h : Lk lo w o t) : ∀ p, o = some p → w.cell? ⟨p, 0, none⟩ = some (.int .i64 (kind0 t)) := by
  rintro p rfl
  rcases h with ⟨_, q, e, h⟩ | ⟨_, e⟩
  · cases e
    obtain ⟨c, rr, es, c0⟩ := (h.isIn (Nat.le_refl _)).top
    rw [es]; exact c0
  · cases e
theorem Lk.none {lo : Nat} {w : World} {o : Option Nat} {t : List C} (h : Lk lo w o t) : (o = Option.none) ↔ trm t = false := by
  rcases h with ⟨h1, p, e, _⟩ | ⟨h1, e⟩
  · subst e; simp [h1]
  · subst e; simp [h1]
theorem Lk.tree {lo : Nat} {w : World} {o : Option Nat} {t : List C} (h : Lk lo w o t) (ht : trm t = true) : ∃ p, o = some p ∧ TreL lo w.heap.size w p t := by
  rcases h with ⟨_, p, e, h2⟩ | ⟨h1, _⟩
  · exact ⟨p, e, h2⟩
  · rw [ht] at h1; cases h1
end Go.Proofs.Ythgfhimhgeohcaa
