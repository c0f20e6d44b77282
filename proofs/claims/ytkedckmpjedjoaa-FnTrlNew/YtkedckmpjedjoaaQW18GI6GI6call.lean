import Derived.Test.YtkedckmpjedjoaaQW7Plain2G1
import Derived.Test.YtkedckmpjedjoaaQW10W13
import Derived.Test.YtkedckmpjedjoaaQGI5
import Derived.Deep.RegionHeld3
import Derived.Deep.QuietTactic
import Derived.BigQuiet
/- The walk of caTerm; treeOf and TrmShift where places are no term. -/
namespace Go.Proofs.Ytkedckmpjedjoaa
open Go.RowKit
set_option linter.unusedVariables false
set_option linter.unusedSimpArgs false

set_option maxHeartbeats 1000000 in
theorem caTerm_some (b off cap b' off' cap' : Nat) (t u : List C) (w : World) (hm : t.length ≤ maxLen) (hA : At w b off t) (hU : At w b' off' u) (hl : t.length = u.length) :
    Calls Try.prog 78 #[.slice (some ⟨b, off, none⟩) t.length cap, .slice (some ⟨b', off', none⟩) u.length cap'] w fun e w' => e = .returned (.bool (sameS t u)) ∧ Below w.heap.size w w' := by
  unfold maxLen at hm
  have hne : ((t.length : Int) != (u.length : Int)) = false := by simp; omega
  have hul : u.length ≤ 2 ^ 63 - 1 := by omega
  have HL := hide hl
  clear hl
  go_enter Try.func78, Try.ntmps78
  go_wp2
  go_loopw [5] (fun i wr => ∃ (k : Nat), k ≤ t.length ∧ i = .int .i64 k ∧ t.take k = u.take k ∧ Below w.heap.size w wr) (fun i _ => t.length - (intOf i).toNat)
  case atStart => exact ⟨0, Nat.zero_le _, rfl, rfl, Below.refl _ _⟩
  case round =>
    obtain ⟨k, hk, rfl, hx, hB⟩ := hrel
    have HX := hide hx
    clear hx
    by_cases hlt : k < t.length
    · have hlu : k < u.length := by rw [← unhide HL]; exact hlt
      obtain ⟨c0, c1, c2⟩ := (hA.below hB) k hlt
      obtain ⟨d0, d1, d2⟩ := (hU.below hB) k hlu
      obtain ⟨c, hc⟩ : ∃ c, c = t[k] := ⟨_, rfl⟩
      rw [← hc] at c0 c1 c2
      have HC := hide hc
      clear hc
      obtain ⟨d, hd⟩ : ∃ d, d = u[k] := ⟨_, rfl⟩
      rw [← hd] at d0 d1 d2
      have HD := hide hd
      clear hd
      have hneq := neq_cell c d
      cases hsm : same c d with
      | false =>
        rw [hsm] at hneq
        go_wp2
        go_quiet (fail)
        go_wp2
        go_ret
        refine ⟨ret_bool (sameS_no (fun h => ?_)).symm, ?_⟩
        · have e : c = d := by rw [unhide HC, unhide HD]; simp [h]
          rw [(same_iff c d).2 e] at hsm; cases hsm
        · exact below_drewN hB _
      | true =>
        rw [hsm] at hneq
        go_wp2
        go_quiet (fail)
        go_wp2
        go_roundw
        case rel => exact ⟨k + 1, by omega, by go_num, by rw [List.take_succ_eq_append_getElem hlt, List.take_succ_eq_append_getElem hlu, unhide HX, ← unhide HC, ← unhide HD, (same_iff c d).1 hsm], below_drewN hB _⟩
        case measure => simp [intOf]; omega
    · go_wp2
      go_ret
      refine ⟨ret_bool (sameS_yes ?_).symm, hB⟩
      have := unhide HX
      rw [List.take_of_length_le (by omega), List.take_of_length_le (by rw [← unhide HL]; omega)] at this
      exact this

set_option maxHeartbeats 400000 in
theorem caTerm_far (ao bo : Option Addr) (n m cap cap' : Nat) (w : World) (hl : n ≠ m) :
    Calls Try.prog 78 #[.slice ao n cap, .slice bo m cap'] w fun e w' => e = .returned (.bool false) ∧ Below w.heap.size w w' := by
  have hne : ((n : Int) != (m : Int)) = true := by rw [bne_iff_ne]; omega
  go_enter Try.func78, Try.ntmps78
  go_wp2
  go_ret
  exact ⟨rfl, Below.refl _ _⟩

set_option maxHeartbeats 400000 in
theorem caTerm_none (ao bo : Option Addr) (cap cap' : Nat) (w : World) :
    Calls Try.prog 78 #[.slice ao 0 cap, .slice bo 0 cap'] w fun e w' => e = .returned (.bool true) ∧ Below w.heap.size w w' := by
  go_enter Try.func78, Try.ntmps78
  go_wp2
  refine wp_loop_rounds 1 ?_
  rw [rounds_succ]
  go_wp2
  go_ret
  exact ⟨rfl, Below.refl _ _⟩

theorem caTerm_any (ao bo : Option Addr) (cap cap' : Nat) (t u : List C) (w : World) (hm : t.length ≤ maxLen) (hA : Row w ao t) (hU : Row w bo u) :
    Calls Try.prog 78 #[.slice ao t.length cap, .slice bo u.length cap'] w fun e w' => e = .returned (.bool (sameS t u)) ∧ Below w.heap.size w w' := by
  by_cases hl : t.length = u.length
  · rcases hA with rfl | ⟨b, off, rfl, hA⟩
    · have hu : u = [] := List.length_eq_zero_iff.1 hl.symm
      subst hu
      exact caTerm_none ao bo cap cap' w
    · rcases hU with rfl | ⟨b', off', rfl, hU⟩
      · have ht : t = [] := List.length_eq_zero_iff.1 hl
        subst ht
        exact caTerm_none _ bo cap cap' w
      · exact caTerm_some b off cap b' off' cap' t u w hm hA hU hl
  · rw [sameS_no (fun h => hl (by rw [h]))]
    exact caTerm_far ao bo _ _ cap cap' w hl


set_option maxHeartbeats 400000 in
theorem treeOf_no (ao : Option Addr) (cap : Nat) (t : List C) (w : World) (hm : t.length ≤ maxLen) (hA : Row w ao t) (hF : Fit t) (hn : trm t = false) :
    Calls Try.prog 116 #[.slice ao t.length cap] w fun e w' => e = .returned (.pointer none) ∧ Below w.heap.size w w' := by
  have H := hide (TrmOk_any ao cap t w hm hA hF)
  rw [hn] at H
  go_enter Try.func116, Try.ntmps116
  go_wp2_with fail
  refine (unhide H).mono ?_
  rintro e w1 ⟨rfl, hb1⟩
  go_wp2
  go_ret
  exact ⟨rfl, hb1⟩

end Go.Proofs.Ytkedckmpjedjoaa

/- A tree of places, or nil; the beginning of goalOf. -/
namespace Go.Proofs.Ytkedckmpjedjoaa
open Go.RowKit Go.Shelf
set_option linter.unusedVariables false
set_option linter.unusedSimpArgs false

/-- A tree of places in blocks from lo to hi. -/
def TreL (lo hi : Nat) (W : World) (p : Nat) (t : List C) : Prop := ∃ z, Tre (fun b => lo ≤ b ∧ b < hi) W 40 p z ∧ z.map (·.2) = t ∧ t.length ≤ 40
theorem treL_up {S : Nat → Prop} {W : World} : ∀ {f g p : Nat} {z : List (Nat × C)}, Tre S W f p z → f ≤ g → Tre S W g p z
  | f + 1, g + 1, p, z, ⟨c, ks, ao, cap, e, hp, hl, hn, hr, hs⟩, h => ⟨c, ks, ao, cap, e, hp, hl, hn, hr, fun k hk => treL_up (hs k hk) (by omega)⟩
theorem TreL.kept {lo hi lo' hi' : Nat} {W W' : World} {p : Nat} {t : List C} (h : TreL lo hi W p t) (hl : lo' ≤ lo) (hh : hi ≤ hi') (hk : ∀ b, lo ≤ b → b < hi → W'.heap[b]? = W.heap[b]?) : TreL lo' hi' W' p t := by
  obtain ⟨z, h1, h2, h3⟩ := h
  exact ⟨z, h1.kept (fun b h => ⟨Nat.le_trans hl h.1, Nat.lt_of_lt_of_le h.2 hh⟩) (fun b h => hk b h.1 h.2), h2, h3⟩
theorem TreL.below {lo : Nat} {W W' : World} {p : Nat} {t : List C} (h : TreL lo W.heap.size W p t) (hb : Below W.heap.size W W') : TreL lo W'.heap.size W' p t := h.kept (Nat.le_refl _) hb.size (fun b _ h2 => hb.block b h2)
theorem TreL.isIn {lo hi : Nat} {W : World} {p : Nat} {t : List C} (h : TreL lo hi W p t) (hh : hi ≤ W.heap.size) : TreIn W p t := by
  obtain ⟨z, h1, h2, h3⟩ := h
  exact ⟨40, z, h1.kept (fun b h => Nat.lt_of_lt_of_le h.2 hh) (fun _ _ => rfl), h2, h3⟩
/-- A tree of these places, or nil where they are none. -/
def Lk (lo : Nat) (w : World) (o : Option Nat) (t : List C) : Prop := (trm t = true ∧ ∃ p, o = some p ∧ TreL lo w.heap.size w p t) ∨ (trm t = false ∧ o = none)
theorem Lk.below {lo : Nat} {w w' : World} {o : Option Nat} {t : List C} (h : Lk lo w o t) (hb : Below w.heap.size w w') : Lk lo w' o t :=
  h.imp_left fun ⟨h1, p, e, h2⟩ => ⟨h1, p, e, h2.below hb⟩
theorem treeOf_opt (lo : Nat) (ao : Option Addr) (cap : Nat) (t : List C) (w : World) (hlo : lo ≤ w.heap.size) (hcap : t.length ≤ cap) (hcm : cap ≤ maxLen) (hA : Row w ao t) (hF : Fit t) :
    Calls Try.prog 116 #[.slice ao t.length cap] w fun e w' => ∃ o, e = .returned (ptrV o) ∧ Lk lo w' o t ∧ Below w.heap.size w w' := by
  cases hy : trm t with
  | false =>
    refine (treeOf_no ao cap t w (Nat.le_trans hcap hcm) hA hF hy).mono ?_
    rintro e w' ⟨rfl, hb⟩
    exact ⟨none, rfl, .inr ⟨hy, rfl⟩, hb⟩
  | true =>
    refine (treeOf_yes 0 ao cap t w hcap hcm (Nat.zero_le _) hA hF hy).mono ?_
    rintro e w' ⟨p, z, rfl, hz, hnd, hT, hb⟩
    exact ⟨some p, rfl, .inl ⟨hy, p, rfl, z, (treL_up hT (trm_len hy).2).kept (W' := w') (fun b h => ⟨Nat.le_trans hlo h.1, h.2⟩) (fun _ _ => rfl), hz, (trm_len hy).2⟩, hb⟩
theorem l3T_fit (t : List C) : l3T t = (trm t && fitT t) := by
  have h : t.any farC = t.any (overC 8) := rfl
  unfold l3T fitT
  rw [h, Bool.and_assoc]

theorem three_new (w : World) (x0 x1 x2 : Value) (T : TypeId) : Below w.heap.size w (w.alloc (.cells #[x0, x1, x2] T)) ∧ (w.alloc (.cells #[x0, x1, x2] T)).cell? ⟨w.heap.size, 0, none⟩ = some x0 ∧ (w.alloc (.cells #[x0, x1, x2] T)).cell? ⟨w.heap.size, 1, none⟩ = some x1 ∧ (w.alloc (.cells #[x0, x1, x2] T)).cell? ⟨w.heap.size, 2, none⟩ = some x2 := by
  have hb : (w.alloc (.cells #[x0, x1, x2] T)).heap[w.heap.size]? = some (.cells #[x0, x1, x2] T) := World.alloc_heap_new w _
  refine ⟨cell_below _ _, ?_, ?_, ?_⟩ <;> (simp only [World.cell?]; rw [hb]; rfl)
/-- The first place's kind, where there is one. -/
def kind0 (t : List C) : Int := match t with | [] => 0 | c :: _ => c.k
theorem Lk.kind {lo : Nat} {w : World} {o : Option Nat} {t : List C} (h : Lk lo w o t) : ∀ p, o = some p → w.cell? ⟨p, 0, none⟩ = some (.int .i64 (kind0 t)) := by
  rintro p rfl
  rcases h with ⟨_, q, e, h⟩ | ⟨_, e⟩
  · cases e
    obtain ⟨c, rr, es, c0⟩ := (h.isIn (Nat.le_refl _)).top
    rw [es]; exact c0
  · cases e
theorem Lk.none {lo : Nat} {w : World} {o : Option Nat} {t : List C} (h : Lk lo w o t) : (o = Option.none) ↔ trm t = false := by
  rcases h with ⟨h1, p, e, _⟩ | ⟨h1, e⟩
  · subst e; simp [h1]
  · subst e; simp [h1]
theorem Lk.tree {lo : Nat} {w : World} {o : Option Nat} {t : List C} (h : Lk lo w o t) (ht : trm t = true) : ∃ p, o = some p ∧ TreL lo w.heap.size w p t := by
  rcases h with ⟨_, p, e, h2⟩ | ⟨h1, _⟩
  · exact ⟨p, e, h2⟩
  · rw [ht] at h1; cases h1
end Go.Proofs.Ytkedckmpjedjoaa

/- goalOf of a goal of the kind call. -/
namespace Go.Proofs.Ytkedckmpjedjoaa
open Go.RowKit Go.Shelf
set_option linter.unusedVariables false
set_option linter.unusedSimpArgs false

/-- What may be a goal of this kind. -/
def whole_call (a b c : List C) : Bool := trm a && (kind0 a == 3) && (b.length == 0) && (c.length == 0)
/-- The goal, or none. -/
def Goal_call (lo hi : Nat) (a b c : List C) (W : World) (v : Value) : Prop := (whole_call a b c = true ∧ ∃ p, v = .iface 222 (.agg #[ptrV (some p)]) ∧ TreL lo hi W p a) ∨ (whole_call a b c = false ∧ v = .nilIface)

set_option maxRecDepth 100000 in
set_option maxHeartbeats 4000000 in
theorem goalOf_call (xa ya za : Option Addr) (xc yc zc : Nat) (a b c : List C) (w : World) (h : Trip w xa ya za a b c) (h1 : a.length ≤ xc ∧ xc ≤ maxLen) (h2 : b.length ≤ yc ∧ yc ≤ maxLen) (h3 : c.length ≤ zc ∧ zc ≤ maxLen) :
    Calls Try.prog 146 #[.agg #[.int .i64 1, .slice xa a.length xc, .slice ya b.length yc, .slice za c.length zc]] w fun e w' => ∃ v, e = .returned v ∧ Goal_call w.heap.size w'.heap.size a b c w' v ∧ Below w.heap.size w w' := by
  have HA := hide (fun (W : World) (hW : Below w.heap.size w W) => treeOf_opt w.heap.size xa xc a W hW.size h1.1 h1.2 ((h.below hW).ra) h.fa)
  have HB := hide (fun (W : World) (hW : Below w.heap.size w W) => treeOf_opt w.heap.size ya yc b W hW.size h2.1 h2.2 ((h.below hW).rb) h.fb)
  have HC := hide (fun (W : World) (hW : Below w.heap.size w W) => treeOf_opt w.heap.size za zc c W hW.size h3.1 h3.2 ((h.below hW).rc) h.fc)
  have hla := h.la
  have hlb := h.lb
  have hlc := h.lc
  clear h h1 h2 h3
  obtain ⟨hb0, d1, d2, d3⟩ := four_new w (.int .i64 1) (.slice xa a.length xc) (.slice ya b.length yc) (.slice za c.length zc) 93
  have d0 : (w.alloc (.cells #[.int .i64 1, .slice xa a.length xc, .slice ya b.length yc, .slice za c.length zc] 93)).cell? ⟨w.heap.size, 0, none⟩ = some (.int .i64 1) := by
    have hb := World.alloc_heap_new w (.cells #[.int .i64 1, .slice xa a.length xc, .slice ya b.length yc, .slice za c.length zc] 93)
    simp only [World.cell?]; rw [hb]; rfl
  go_enter Try.func146, Try.ntmps146
  go_wp2
  generalize w.alloc (.cells #[.int .i64 1, .slice xa a.length xc, .slice ya b.length yc, .slice za c.length zc] 93) = w0 at hb0 d0 d1 d2 d3 ⊢
  have hl0 : w.heap.size < w0.heap.size := World.block_lt_of_cell? w0 ⟨_, _, none⟩ d1
  go_region_held3 (fun w' => w'.cell? ⟨w.heap.size, 0, none⟩ = some (.int .i64 1) ∧ w'.cell? ⟨w.heap.size, 1, none⟩ = some (.slice xa a.length xc) ∧ w'.cell? ⟨w.heap.size, 2, none⟩ = some (.slice ya b.length yc) ∧ w'.cell? ⟨w.heap.size, 3, none⟩ = some (.slice za c.length zc)) (first | (refine ⟨?_, ?_, ?_, ?_⟩ <;> assumption) | go_keep) (first
    | (go_at_call 116; have hx := hb02; refine (unhide HC w02 (by exact hB02)).mono ?_; rintro e w03 ⟨o3, rfl, hk3, hb03⟩; have g0 := (hb03.cell (p := ⟨w.heap.size, 0, none⟩) hl2).trans f0; have g1 := (hb03.cell (p := ⟨w.heap.size, 1, none⟩) hl2).trans f1; have g2 := (hb03.cell (p := ⟨w.heap.size, 2, none⟩) hl2).trans f2; have g3 := (hb03.cell (p := ⟨w.heap.size, 3, none⟩) hl2).trans f3; have hB03 := bstep hB02 hb03)
    | (go_at_call 116; have hx := hb01; refine (unhide HB w01 (by exact hB01)).mono ?_; rintro e w02 ⟨o2, rfl, hk2, hb02⟩; have f0 := (hb02.cell (p := ⟨w.heap.size, 0, none⟩) hl1).trans e0; have f1 := (hb02.cell (p := ⟨w.heap.size, 1, none⟩) hl1).trans e1; have f2 := (hb02.cell (p := ⟨w.heap.size, 2, none⟩) hl1).trans e2; have f3 := (hb02.cell (p := ⟨w.heap.size, 3, none⟩) hl1).trans e3; have hl2 : w.heap.size < w02.heap.size := World.block_lt_of_cell? w02 ⟨_, _, none⟩ f1; have hB02 := bstep hB01 hb02)
    | (go_at_call 116; refine (unhide HA w0.drew hb0.drew).mono ?_; rintro e w01 ⟨o1, rfl, hk1, hb01⟩; have e0 := (hb01.cell (p := ⟨w.heap.size, 0, none⟩) hl0).trans d0; have e1 := (hb01.cell (p := ⟨w.heap.size, 1, none⟩) hl0).trans d1; have e2 := (hb01.cell (p := ⟨w.heap.size, 2, none⟩) hl0).trans d2; have e3 := (hb01.cell (p := ⟨w.heap.size, 3, none⟩) hl0).trans d3; have hl1 : w.heap.size < w01.heap.size := World.block_lt_of_cell? w01 ⟨_, _, none⟩ e1; have hB01 := bstep hb0.drew hb01))
  have hl3 : w.heap.size < w03.heap.size := World.block_lt_of_cell? w03 ⟨_, _, none⟩ g1
  have HK1 := hide ((hk1.below hb02).below hb03)
  have HK2 := hide (hk2.below hb03)
  have HK3 := hide hk3
  clear hk1 hk2 hk3 hb01 hb02 hb03 hB01 hB02 hb0 d0 d1 d2 d3 e0 e1 e2 e3 f0 f1 f2 f3 HA HB HC hl0 hl1 hl2 hx
  have HTM := hide (fun (W : World) => terms_call o1 W)
  obtain ⟨nb, n0, n1, n2⟩ := three_new w03 (.slice xa a.length xc) (.slice ya b.length yc) (.slice za c.length zc) 41
  have ga0 := (nb.cell (p := ⟨w.heap.size, 0, none⟩) hl3).trans g0
  have ga1 := (nb.cell (p := ⟨w.heap.size, 1, none⟩) hl3).trans g1
  have ga2 := (nb.cell (p := ⟨w.heap.size, 2, none⟩) hl3).trans g2
  have ga3 := (nb.cell (p := ⟨w.heap.size, 3, none⟩) hl3).trans g3
  have hl3a : w.heap.size < (w03.alloc (.cells #[.slice xa a.length xc, .slice ya b.length yc, .slice za c.length zc] 41)).heap.size := Nat.lt_of_lt_of_le hl3 nb.size
  have hn1 : w03.heap.size < (w03.alloc (.cells #[.slice xa a.length xc, .slice ya b.length yc, .slice za c.length zc] 41)).heap.size := World.block_lt_of_cell? _ ⟨_, _, none⟩ n0
  unfold ptrV at *
  go_wp2
  go_region_held3 (fun w' => w'.cell? ⟨w.heap.size, 0, none⟩ = some (.int .i64 1) ∧ w'.cell? ⟨w.heap.size, 1, none⟩ = some (.slice xa a.length xc) ∧ w'.cell? ⟨w.heap.size, 2, none⟩ = some (.slice ya b.length yc) ∧ w'.cell? ⟨w.heap.size, 3, none⟩ = some (.slice za c.length zc)) (first | (refine ⟨?_, ?_, ?_, ?_⟩ <;> assumption) | go_keep) (first
    | (go_at_call 214; refine (unhide HTM _).mono ?_; rintro e w04 ⟨ao, cap, rfl, _, hb04⟩; simp only [List.length_nil, List.length_cons]; have i0 := (hb04.cell (p := ⟨w.heap.size, 0, none⟩) (by first | exact hl3 | exact hl3a)).trans (by first | exact g0 | exact ga0); have i1 := (hb04.cell (p := ⟨w.heap.size, 1, none⟩) (by first | exact hl3 | exact hl3a)).trans (by first | exact g1 | exact ga1); have i2 := (hb04.cell (p := ⟨w.heap.size, 2, none⟩) (by first | exact hl3 | exact hl3a)).trans (by first | exact g2 | exact ga2); have i3 := (hb04.cell (p := ⟨w.heap.size, 3, none⟩) (by first | exact hl3 | exact hl3a)).trans (by first | exact g3 | exact ga3)))
  · have q0 : w04.cell? ⟨w03.heap.size, 0, none⟩ = some (.slice xa a.length xc) := (hb04.cell (p := ⟨w03.heap.size, 0, none⟩) hn1).trans n0
    have q1 : w04.cell? ⟨w03.heap.size, 1, none⟩ = some (.slice ya b.length yc) := (hb04.cell (p := ⟨w03.heap.size, 1, none⟩) hn1).trans n1
    have q2 : w04.cell? ⟨w03.heap.size, 2, none⟩ = some (.slice za c.length zc) := (hb04.cell (p := ⟨w03.heap.size, 2, none⟩) hn1).trans n2
    have hbW : Below w03.heap.size w03 w04 := bstep nb.drew hb04
    clear hb04
    have K1 := (unhide HK1).below hbW
    have hBW := bstep hB03 hbW
    clear hbW g0 g1 g2 g3 ga0 ga1 ga2 ga3 i0 i1 i2 i3 n0 n1 n2 nb hn1 hl3a hl3 HK1 HK2 HK3 HTM hB03
    generalize w03.heap.size = L at q0 q1 q2 ⊢
    generalize w04 = W at *
    have HGW := hide (goalWhole_call o1 W (kind0 a) K1.kind)
    obtain ⟨B, hB⟩ : ∃ B, B = (!decide (none ∈ ([o1] : List (Option Nat))) && (kind0 a == 3)) := ⟨_, rfl⟩
    rw [← hB] at HGW
    have HB := hide hB
    clear hB
    go_wp2
    go_loopw [65] (fun i wr => ∃ (k : Nat), k ≤ 2 ∧ i = .int .i64 k ∧ (0 < k → b.length = 0) ∧ (1 < k → c.length = 0) ∧ wr = W) (fun i _ => 2 - (intOf i).toNat)
    case atStart => exact ⟨0, by omega, rfl, fun h => absurd h (by omega), fun h => absurd h (by omega), rfl⟩
    case round =>
      obtain ⟨k, hk, rfl, z0, z1, hwr⟩ := hrel
      subst hwr
      have HZ0 := hide z0
      have HZ1 := hide z1
      clear z0 z1
      by_cases k0 : k = 0
      · subst k0
        by_cases ha : b.length = 0
        · have ha' := hide ha
          clear ha
          have hz : b.length = 0 := unhide ha'
          rw [hz] at q1
          go_wp2
          go_roundw
          case rel => exact ⟨1, by omega, by go_num, fun _ => unhide ha', fun h => absurd h (by omega), by first | rfl | trivial⟩
          case measure => simp [intOf]
        · have hp : 0 < b.length := by omega
          go_wp2
          go_ret
          exact ⟨_, rfl, .inr ⟨by unfold whole_call; simp [ha], rfl⟩, hBW⟩
      by_cases k1 : k = 1
      · subst k1
        by_cases ha : c.length = 0
        · have ha' := hide ha
          clear ha
          have hz : c.length = 0 := unhide ha'
          rw [hz] at q2
          go_wp2
          go_roundw
          case rel => exact ⟨2, by omega, by go_num, fun _ => unhide HZ0 (by omega), fun _ => unhide ha', by first | rfl | trivial⟩
          case measure => simp [intOf]
        · have hp : 0 < c.length := by omega
          go_wp2
          go_ret
          exact ⟨_, rfl, .inr ⟨by unfold whole_call; simp [ha], rfl⟩, hBW⟩
      have k2 : k = 2 := by omega
      subst k2
      have y0 := hide (unhide HZ0 (by omega))
      have y1 := hide (unhide HZ1 (by omega))
      clear HZ0 HZ1
      cases B with
      | false =>
        go_wp2_with (go_at_call 168; refine (unhide HGW).mono ?_; rintro e w09 ⟨rfl, hb09⟩)
        go_ret
        have hB := unhide HB
        refine ⟨_, rfl, .inr ⟨?_, rfl⟩, bstep hBW hb09⟩
        unfold whole_call
        cases hw : (trm a && (kind0 a == 3) && (b.length == 0) && (c.length == 0)) with
        | false => rfl
        | true =>
          exfalso
          have ta : trm a = true := by revert hw; cases trm a <;> simp
          have k3 : (kind0 a == 3) = true := by revert hw; cases (kind0 a == 3) <;> simp
          obtain ⟨p, ea, Ta⟩ := K1.tree ta
          rw [k3, ea] at hB
          simp at hB
      | true =>
        go_wp2_with (go_at_call 168; refine (unhide HGW).mono ?_; rintro e w09 ⟨rfl, hb09⟩)
        go_ret
        have hB := unhide HB
        have ta : trm a = true := by
          cases t : trm a with
          | true => rfl
          | false => rw [K1.none.mpr t] at hB; simp at hB
        have k3 : (kind0 a == 3) = true := by revert hB; cases (kind0 a == 3) <;> simp
        obtain ⟨p, ea, Ta⟩ := K1.tree ta
        subst ea
        refine ⟨_, rfl, .inl ⟨?_, p, rfl, Ta.below hb09⟩, bstep hBW hb09⟩
        unfold whole_call
        simp [ta, beq_iff_eq.mp k3, unhide y0, unhide y1]
  · obtain ⟨nb', q0, q1, q2⟩ := three_new w04 (.slice xa a.length xc) (.slice ya b.length yc) (.slice za c.length zc) 41
    have hbW := bstep (bstep (Below.refl w03.heap.size w03).drew hb04) nb'
    clear hb04 nb'
    have K1 := (unhide HK1).below hbW
    have hBW := bstep hB03 hbW
    clear hbW g0 g1 g2 g3 ga0 ga1 ga2 ga3 i0 i1 i2 i3 n0 n1 n2 nb hn1 hl3a hl3 HK1 HK2 HK3 HTM hB03
    generalize w04.heap.size = L at q0 q1 q2 ⊢
    generalize w04.alloc (.cells #[.slice xa a.length xc, .slice ya b.length yc, .slice za c.length zc] 41) = W at *
    have HGW := hide (goalWhole_call o1 W (kind0 a) K1.kind)
    obtain ⟨B, hB⟩ : ∃ B, B = (!decide (none ∈ ([o1] : List (Option Nat))) && (kind0 a == 3)) := ⟨_, rfl⟩
    rw [← hB] at HGW
    have HB := hide hB
    clear hB
    go_wp2
    go_loopw [65] (fun i wr => ∃ (k : Nat), k ≤ 2 ∧ i = .int .i64 k ∧ (0 < k → b.length = 0) ∧ (1 < k → c.length = 0) ∧ wr = W) (fun i _ => 2 - (intOf i).toNat)
    case atStart => exact ⟨0, by omega, rfl, fun h => absurd h (by omega), fun h => absurd h (by omega), rfl⟩
    case round =>
      obtain ⟨k, hk, rfl, z0, z1, hwr⟩ := hrel
      subst hwr
      have HZ0 := hide z0
      have HZ1 := hide z1
      clear z0 z1
      by_cases k0 : k = 0
      · subst k0
        by_cases ha : b.length = 0
        · have ha' := hide ha
          clear ha
          have hz : b.length = 0 := unhide ha'
          rw [hz] at q1
          go_wp2
          go_roundw
          case rel => exact ⟨1, by omega, by go_num, fun _ => unhide ha', fun h => absurd h (by omega), by first | rfl | trivial⟩
          case measure => simp [intOf]
        · have hp : 0 < b.length := by omega
          go_wp2
          go_ret
          exact ⟨_, rfl, .inr ⟨by unfold whole_call; simp [ha], rfl⟩, hBW⟩
      by_cases k1 : k = 1
      · subst k1
        by_cases ha : c.length = 0
        · have ha' := hide ha
          clear ha
          have hz : c.length = 0 := unhide ha'
          rw [hz] at q2
          go_wp2
          go_roundw
          case rel => exact ⟨2, by omega, by go_num, fun _ => unhide HZ0 (by omega), fun _ => unhide ha', by first | rfl | trivial⟩
          case measure => simp [intOf]
        · have hp : 0 < c.length := by omega
          go_wp2
          go_ret
          exact ⟨_, rfl, .inr ⟨by unfold whole_call; simp [ha], rfl⟩, hBW⟩
      have k2 : k = 2 := by omega
      subst k2
      have y0 := hide (unhide HZ0 (by omega))
      have y1 := hide (unhide HZ1 (by omega))
      clear HZ0 HZ1
      cases B with
      | false =>
        go_wp2_with (go_at_call 168; refine (unhide HGW).mono ?_; rintro e w09 ⟨rfl, hb09⟩)
        go_ret
        have hB := unhide HB
        refine ⟨_, rfl, .inr ⟨?_, rfl⟩, bstep hBW hb09⟩
        unfold whole_call
        cases hw : (trm a && (kind0 a == 3) && (b.length == 0) && (c.length == 0)) with
        | false => rfl
        | true =>
          exfalso
          have ta : trm a = true := by revert hw; cases trm a <;> simp
          have k3 : (kind0 a == 3) = true := by revert hw; cases (kind0 a == 3) <;> simp
          obtain ⟨p, ea, Ta⟩ := K1.tree ta
          rw [k3, ea] at hB
          simp at hB
      | true =>
        go_wp2_with (go_at_call 168; refine (unhide HGW).mono ?_; rintro e w09 ⟨rfl, hb09⟩)
        go_ret
        have hB := unhide HB
        have ta : trm a = true := by
          cases t : trm a with
          | true => rfl
          | false => rw [K1.none.mpr t] at hB; simp at hB
        have k3 : (kind0 a == 3) = true := by revert hB; cases (kind0 a == 3) <;> simp
        obtain ⟨p, ea, Ta⟩ := K1.tree ta
        subst ea
        refine ⟨_, rfl, .inl ⟨?_, p, rfl, Ta.below hb09⟩, bstep hBW hb09⟩
        unfold whole_call
        simp [ta, beq_iff_eq.mp k3, unhide y0, unhide y1]
end Go.Proofs.Ytkedckmpjedjoaa
