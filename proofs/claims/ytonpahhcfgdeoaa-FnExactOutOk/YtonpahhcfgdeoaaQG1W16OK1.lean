import Derived.Test.YtonpahhcfgdeoaaQW2W3W4W6SB2
import Derived.Test.YtonpahhcfgdeoaaQT3Plain2T4
import Derived.Test.YtonpahhcfgdeoaaQW15
import Derived.Test.YtonpahhcfgdeoaaQMS2
import Derived.Test.YtonpahhcfgdeoaaQSH0SH1
import Derived.Test.YtonpahhcfgdeoaaQW7W18T5BR1BG1
import Derived.Test.YtonpahhcfgdeoaaQBO1
/- Goals: when one may stand in a clause; the walks of the model's l3Term, l3Call and GoalOk. -/
namespace Go.Proofs.Ytonpahhcfgdeoaa
open Go.RowKit
set_option linter.unusedVariables false
set_option linter.unusedSimpArgs false

/-- A place has a variable that clauses have not. -/
def farC (c : C) : Bool := decide (c.k = 1) && decide (8 ≤ c.n)
/-- A term may stand in a clause. -/
def l3T (t : List C) : Bool := trm t && decide (t.length ≤ 12) && !(t.any farC)
/-- A term may be called. -/
def callT : List C → Bool
  | [] => false
  | c :: _ => decide (c.k = 3)
/-- A goal may stand in a clause. -/
def goalB (k : Int) (a b c : List C) : Bool :=
  if k = 1 then l3T a && callT a && decide (b.length + c.length = 0)
  else if k = 3 then decide (a.length + b.length + c.length = 0)
  else if k = 2 ∨ k = 4 then l3T a && l3T b && decide (c.length = 0)
  else if k = 5 then l3T a && l3T b && l3T c
  else false

theorem l3T_iff (t : List C) : l3T t = true ↔ trm t = true ∧ t.length ≤ 12 ∧ ∀ c ∈ t, farC c = false := by
  unfold l3T
  simp only [Bool.and_eq_true, decide_eq_true_eq, Bool.not_eq_true', List.any_eq_false, Bool.not_eq_true, and_assoc]

set_option maxHeartbeats 400000 in
theorem l3Call_any (ao : Option Addr) (cap : Nat) (t : List C) (w : World) (hm : t.length ≤ maxLen) (hA : Row w ao t) :
    Calls Try.prog 55 #[.slice ao t.length cap] w fun e w' => e = .returned (.bool (callT t)) ∧ w' = w := by
  unfold maxLen at hm
  rcases hA with rfl | ⟨b, off, rfl, hA⟩
  · go_enter Try.func55, Try.ntmps55
    try simp only [List.length_nil]
    go_wp2
    go_ret
    exact ⟨ret_bool rfl, rfl⟩
  · cases t with
    | nil =>
      go_enter Try.func55, Try.ntmps55
      try simp only [List.length_nil]
      go_wp2
      go_ret
      exact ⟨ret_bool rfl, rfl⟩
    | cons c r =>
      obtain ⟨c0, c1, c2⟩ := hA 0 (by simp)
      simp only [List.getElem_cons_zero, Nat.zero_mul, Nat.add_zero] at c0
      simp only [List.length_cons] at hm ⊢
      have hp : 0 < r.length + 1 := by omega
      by_cases h3 : c.k = 3
      · have h3b : (c.k == 3) = true := by simpa using h3
        have HE : Hid (callT (c :: r) = true) := by simp [Hid, callT, h3]
        clear h3 hA
        go_enter Try.func55, Try.ntmps55
        go_wp2
        go_ret
        exact ⟨ret_bool (unhide HE).symm, rfl⟩
      · have h3b : (c.k == 3) = false := by simpa using h3
        have HE : Hid (callT (c :: r) = false) := by simp [Hid, callT, h3]
        clear h3 hA
        go_enter Try.func55, Try.ntmps55
        go_wp2
        go_ret
        exact ⟨ret_bool (unhide HE).symm, rfl⟩
end Go.Proofs.Ytonpahhcfgdeoaa

/- The walk of the program's TrmCanon. -/
namespace Go.Proofs.Ytonpahhcfgdeoaa
open Go.RowKit Go.Maps
set_option linter.unusedVariables false
set_option linter.unusedSimpArgs false

theorem exists_first : ∀ (z : List Int) (x : Int), x ∈ z → ∃ k, ∃ h : k < z.length, z[k] = x ∧ x ∉ z.take k
  | a :: r, x, hm => by
      by_cases e : a = x
      · exact ⟨0, by simp, e, by simp⟩
      · have hr : x ∈ r := by
          rcases List.mem_cons.1 hm with h | h
          · exact absurd h.symm e
          · exact h
        obtain ⟨k, hk, h1, h2⟩ := exists_first r x hr
        refine ⟨k + 1, by simp; omega, h1, ?_⟩
        rw [List.take_succ_cons, List.mem_cons]
        rintro (h | h)
        · exact e h.symm
        · exact h2 h

theorem tab_place {z : List Int} {D : DataW Unit} {x : Int} (h : Tab z D) (hx : x ∈ z) (d : DataW Unit) : D.atKey (.int .i64 x) d = .lit (.int .i64 (placeV z x)) := by
  obtain ⟨k, hk, rfl, hn⟩ := exists_first z x hx
  rw [h.2.2 k hk d, placeV_first z z[k] k hk rfl hn]

theorem tab_get {z : List Int} {D : DataW Unit} {x cc : Int} (h : Tab z D) (hx : x ∈ z) (hat : D.atKey (.int .i64 x) (.lit (.int .i64 0)) = .lit (.int .i64 cc)) : placeV z x = cc := by
  rw [tab_place h hx] at hat
  simpa using hat

set_option maxHeartbeats 2000000 in
theorem TrmCanon_some (b off cap : Nat) (t : List C) (w : World) (hm : t.length ≤ 1048576) (hA : At w b off t) (hw : WfC t) :
    Calls Try.prog 65 #[.slice (some ⟨b, off, none⟩) t.length cap] w fun e w' => ∃ v, e = .returned v ∧ OwnC w' w.heap.size v (canonOf t) ∧ Below w.heap.size w w' := by
  obtain ⟨i0, hi, hz0, hz1, hz2⟩ := info_parts Try.infoCell
  have hfl := freeOf_len t
  have HM := hide (mem_freeOf t)
  go_enter Try.func65, Try.ntmps65
  go_wp2_with fail
  refine (numberVars_any _ _ t _ hm (.inr ⟨b, off, rfl, hA⟩) hw).mono ?_
  rintro e w0 ⟨v0, rfl, hv0, ⟨D, n, hn, hmap, hT⟩, hb0⟩
  obtain ⟨z, hz⟩ : ∃ z, z = freeOf t := ⟨_, rfl⟩
  rw [← hz] at hfl hT HM
  have HZ := hide hz
  have HT := hide hT
  clear hz hT hv0
  have hszm : w.heap.size < w0.heap.size := hmap.lt
  go_wp2
  go_loopw [5, 15] (fun o i wr => ∃ (k : Nat), k ≤ t.length ∧ i = .int .i64 k ∧ OwnC wr w0.heap.size o ((t.take k).map (canonC z)) ∧ Below w0.heap.size w0 wr) (fun _ i _ => t.length - (intOf i).toNat)
  case atStart => exact ⟨0, Nat.zero_le _, rfl, World.ownsRow_nil _ _ _ _, Below.refl _ _⟩
  case round =>
    obtain ⟨k, hk, rfl, hown, hB0⟩ := hrel
    have hB := bstep hb0 hB0
    by_cases hlt : k < t.length
    · obtain ⟨c0, c1, c2⟩ := (hA.below hB) k hlt
      have HS := hide (map_step z hlt)
      have hwf := (hw _ (List.getElem_mem hlt)).2
      have hin := hide (show t[k].k = 1 → t[k].n ∈ z from fun h => ((unhide HM) _).2 ⟨_, List.getElem_mem hlt, h, rfl⟩)
      have hmp := hmap.kept (grown_below (row := none) hB0) (by simp)
      obtain ⟨c, hc⟩ : ∃ c, c = t[k] := ⟨_, rfl⟩
      rw [← hc] at c0 c1 c2 HS hwf hin
      clear hc
      have hyl : ((t.take k).map (canonC z)).length ≤ 1048576 := by simp; omega
      obtain ⟨y, hy⟩ : ∃ y, y = (t.take k).map (canonC z) := ⟨_, rfl⟩
      rw [← hy] at hown HS hyl
      clear hy
      obtain ⟨ao, cp, rfl, _⟩ := hown.shape
      by_cases hk1 : c.k = 1
      · have hb : (c.k == 1) = true := by simpa using hk1
        have hmem := hide (unhide hin hk1)
        have HK := hide (canonC_var (z := z) hk1)
        clear hk1 hin
        go_wp2_with (first | (at_lookup; refine wpList_lookup_own_int _ rfl _ _ 127 rfl 3 3 .i64 (int_keyed Try.underlying3) Try.underlying127 Try.underlying3 (zeroInt _) w.heap.size n D rfl (World.ownsMap.alloc hmp _) _ _ rfl (keyOf_int_mk Try.underlying3 hwf) ?_; intro cc hat hwc; have HCC := hide (tab_get (unhide HT) (unhide hmem) hat); clear hat) | (at_builtin; refine wpList_append_own _ rfl _ _ 28 rfl w0.heap.size 67 i0 _ 3 32 Try.underlying28 hi hz0 hz1 hz2 rfl (by decide) _ _ _ rfl (World.ownsRow.alloc (World.ownsRow.alloc hown _) _) ⟨wr.heap.size + 1, 0, none⟩ 1 1 [.int .i64 c.k, .int .i64 cc, .string c.s] rfl rfl ?c1 ?c2 ?c3 ?c4 ?c5 ?_))
        case c1 =>
          intro j u hj
          have := cell_three_new (wr.alloc (.cells #[.int .i64 c.k, .int .i64 cc, .string c.s] 67)) _ _ _ 67 j u hj
          rw [World.size_alloc] at this
          exact this
        case c2 => intro u hu; simp at hu; rcases hu with rfl | rfl | rfl <;> rfl
        case c3 => unfold maxLen; omega
        case c4 => omega
        case c5 => have := hB0.size; simp; omega
        · intro v' w2 hown' hgrow _
          have R := app_cell (c := ⟨c.k, cc, c.s⟩) (hB0.alloc hB0.size _) (Nat.le_refl _) (World.ownsRow.alloc hown _) hown' hgrow
          clear hown' hgrow hown c0 c1 c2 hmp
          go_wp2
          go_roundw
          case rel => exact ⟨k + 1, by omega, by go_num, by rw [unhide HS, unhide HK, unhide HCC]; exact R.1, R.2⟩
          case measure => simp [intOf]; omega
      · have hb : (c.k == 1) = false := by simpa using hk1
        have HK := hide (canonC_other (z := z) hk1)
        clear hk1
        go_wp2_with (at_builtin; refine wpList_append_own _ rfl _ _ 28 rfl w0.heap.size 67 i0 _ 3 32 Try.underlying28 hi hz0 hz1 hz2 rfl (by decide) _ _ _ rfl (World.ownsRow.alloc (World.ownsRow.alloc hown _) _) ⟨wr.heap.size + 1, 0, none⟩ 1 1 [.int .i64 c.k, .int .i64 c.n, .string c.s] rfl rfl ?d1 ?d2 ?d3 ?d4 ?d5 ?_)
        case d1 =>
          intro j u hj
          have := cell_three_new (wr.alloc (.cells #[.int .i64 c.k, .int .i64 c.n, .string c.s] 67)) _ _ _ 67 j u hj
          rw [World.size_alloc] at this
          exact this
        case d2 => intro u hu; simp at hu; rcases hu with rfl | rfl | rfl <;> rfl
        case d3 => unfold maxLen; omega
        case d4 => omega
        case d5 => have := hB0.size; simp; omega
        · intro v' w2 hown' hgrow _
          have R := app_cell (c := c) (hB0.alloc hB0.size _) (Nat.le_refl _) (World.ownsRow.alloc hown _) hown' hgrow
          clear hown' hgrow hown c0 c1 c2 hmp
          go_wp2
          go_roundw
          case rel => exact ⟨k + 1, by omega, by go_num, by rw [unhide HS, unhide HK]; exact R.1, R.2⟩
          case measure => simp [intOf]; omega
    · rw [List.take_of_length_le (by omega)] at hown
      have hO := canon_done hown (unhide HZ) hb0.size
      go_wp2
      go_ret
      exact ⟨_, rfl, hO, hB⟩

set_option maxHeartbeats 400000 in
theorem TrmCanon_none (ao : Option Addr) (cap : Nat) (w : World) :
    Calls Try.prog 65 #[.slice ao 0 cap] w fun e w' => ∃ v, e = .returned v ∧ OwnC w' w.heap.size v (canonOf []) ∧ Below w.heap.size w w' := by
  go_enter Try.func65, Try.ntmps65
  go_wp2_with fail
  refine (numberVars_none _ _ _).mono ?_
  rintro e w0 ⟨v0, rfl, hv0, _, hb0⟩
  go_wp2
  refine wp_loop_rounds 1 ?_
  rw [rounds_succ]
  go_wp2
  go_ret
  exact ⟨_, rfl, World.ownsRow_nil _ _ _ _, hb0⟩

/-- The program's TrmCanon, of whatever places. -/
theorem TrmCanon_any (ao : Option Addr) (cap : Nat) (t : List C) (w : World) (hm : t.length ≤ 1048576) (hA : Row w ao t) (hw : WfC t) :
    Calls Try.prog 65 #[.slice ao t.length cap] w fun e w' => ∃ v, e = .returned v ∧ OwnC w' w.heap.size v (canonOf t) ∧ Below w.heap.size w w' := by
  rcases hA with rfl | ⟨b, off, rfl, hA⟩
  · exact TrmCanon_none ao cap w
  · exact TrmCanon_some b off cap t w hm hA hw
end Go.Proofs.Ytonpahhcfgdeoaa

/- The program's questionOf, hasEnded; bindings that are none, beside trees. -/
namespace Go.Proofs.Ytonpahhcfgdeoaa
open Go.RowKit Go.Shelf
set_option linter.unusedVariables false
set_option linter.unusedSimpArgs false

/-- A question. -/
def isQ (t : List C) : Bool := trm t && callT t && sameS (canonOf t) t
/-- A tree of places in blocks that a call has made. -/
def TreF (lo hi : Nat) (W : World) (p : Nat) (t : List C) : Prop := ∃ z, Tre (fun b => lo ≤ b ∧ b < hi) W 40 p z ∧ z.map (·.2) = t
theorem tre_up {S : Nat → Prop} {W : World} : ∀ {f g p : Nat} {z : List (Nat × C)}, Tre S W f p z → f ≤ g → Tre S W g p z
  | 0, _, _, _, h, _ => h.elim
  | f + 1, 0, _, _, _, h => absurd h (by omega)
  | f + 1, g + 1, p, z, ⟨c, ks, ao, cap, e, hp, hl, hn, hr, hs⟩, h => ⟨c, ks, ao, cap, e, hp, hl, hn, hr, fun k hm => tre_up (hs k hm) (by omega)⟩
theorem TreF.top {lo hi : Nat} {W : World} {p : Nat} {t : List C} (h : TreF lo hi W p t) : ∃ c r, t = c :: r ∧ W.cell? ⟨p, 0, none⟩ = some (.int .i64 c.k) ∧ p < hi := by
  obtain ⟨z, ⟨c, ks, ao, cap, e, hp, _, hN, _⟩, rfl⟩ := h
  exact ⟨c, _, by rw [e]; rfl, hN.cells.1, hp.2⟩

theorem TreF.below {lo : Nat} {W W' : World} {p : Nat} {t : List C} (h : TreF lo W.heap.size W p t) (hb : Below W.heap.size W W') : TreF lo W'.heap.size W' p t := by
  obtain ⟨z, h1, h2⟩ := h
  exact ⟨z, h1.kept (fun b h => ⟨h.1, Nat.lt_of_lt_of_le h.2 hb.size⟩) (fun b h => hb.block b h.2), h2⟩

set_option maxRecDepth 100000 in
set_option maxHeartbeats 1000000 in
theorem questionOf_any (ao : Option Addr) (cap : Nat) (t : List C) (w : World) (hcap : t.length ≤ cap) (hcm : cap ≤ maxLen) (hm : t.length ≤ 1048576) (hA : Row w ao t) (hF : Fit t) (hw : WfC t) :
    Calls Try.prog 40 #[.slice ao t.length cap] w fun e w' => ((isQ t = false ∧ e = .returned (.pointer none)) ∨ (isQ t = true ∧ ∃ p, e = .returned (.pointer (some ⟨p, 0, none⟩)) ∧ TreF w.heap.size w'.heap.size w' p t)) ∧ Below w.heap.size w w' := by
  cases hy : trm t with
  | false =>
    have hq : isQ t = false := by simp [isQ, hy]
    have H := hide (treeOf_no ao cap t w (Nat.le_trans hcap hcm) hA hF hy)
    clear hA hF hw
    go_enter Try.func40, Try.ntmps40
    go_wp2_with (go_at_call 63; refine (unhide H).mono ?_; rintro e w1 ⟨rfl, hb1⟩)
    go_ret
    exact ⟨.inl ⟨hq, rfl⟩, hb1⟩
  | true =>
    have H := hide (treeOf_yes 0 ao cap t w hcap hcm (Nat.zero_le _) hA hF hy)
    have hml : t.length ≤ maxLen := Nat.le_trans hcap hcm
    go_enter Try.func40, Try.ntmps40
    go_wp2_with fail
    refine (unhide H).mono ?_
    clear H
    rintro e w1 ⟨p, z, rfl, hz, hnd, hT, hb1⟩
    have hTF : TreF w.heap.size w1.heap.size w1 p t := ⟨z, tre_up hT (trm_len hy).2, hz⟩
    obtain ⟨c, r, et, c0, hp⟩ := hTF.top
    have hct : callT t = decide (c.k = 3) := by rw [et]; rfl
    have HTF := hide hTF
    have hA1 := hA.below hb1
    clear hT hz hnd hTF hA hF et
    by_cases h3 : c.k = 3
    · have hq : isQ t = sameS (canonOf t) t := by simp [isQ, hy, hct, h3]
      have HQ := hide hq
      rw [h3] at c0
      clear hct h3 hq
      obtain ⟨Q, hQ⟩ : ∃ Q, Q = sameS (canonOf t) t := ⟨_, rfl⟩
      have HS := hide (fun (W : World) (hW : Below w1.heap.size w1 W) (xa : Option Addr) (xc : Nat) (ho : OwnC W w1.heap.size (.slice xa (canonOf t).length xc) (canonOf t)) => TrmSame_any xa ao xc cap (canonOf t) t W (by rw [canonOf_length]; exact hml) ho.row (hA1.below hW))
      rw [← hQ] at HS HQ
      have HC := hide (TrmCanon_any ao cap t w1 hm hA1 hw)
      clear hA1 hw hQ
      cases Q with
      | false =>
        go_wp2_with (first
          | (go_at_call 65; refine (unhide HC).mono ?_; rintro e w2 ⟨v, rfl, ho, hb2⟩; obtain ⟨xa, xc, rfl, _⟩ := ho.shape)
          | (go_at_call 64; refine (unhide HS w2 hb2 xa xc ho).mono ?_; rintro e w3 ⟨rfl, hb3⟩))
        go_ret
        exact ⟨.inl ⟨unhide HQ, rfl⟩, bstep (bstep hb1 hb2) hb3⟩
      | true =>
        go_wp2_with (first
          | (go_at_call 65; refine (unhide HC).mono ?_; rintro e w2 ⟨v, rfl, ho, hb2⟩; obtain ⟨xa, xc, rfl, _⟩ := ho.shape)
          | (go_at_call 64; refine (unhide HS w2 hb2 xa xc ho).mono ?_; rintro e w3 ⟨rfl, hb3⟩))
        go_ret
        have hb13 := bstep hb2 hb3
        exact ⟨.inr ⟨unhide HQ, p, rfl, (unhide HTF).below hb13⟩, bstep hb1 hb13⟩
    · have hq : isQ t = false := by simp [isQ, hct, h3]
      have hne : (c.k != 3) = true := by simp [h3]
      clear hct hA1
      go_wp2
      go_ret
      exact ⟨.inl ⟨hq, rfl⟩, hb1⟩

/-- Bindings that are new, beside trees that are older. -/
theorem Bnd.older {lo lo' P : Nat} {W : World} {S : Nat → Prop} {s : List B} (h : Bnd lo W P S s) (hl : lo' ≤ lo) (hw : lo ≤ W.heap.size) : Bnd lo' W P (fun b => S b ∨ (lo' ≤ b ∧ b < lo)) s := by
  obtain ⟨ov, M, n, D, rs, h1, h2, h3, h4, h5, h6, h7, h9, h10⟩ := h
  have hov : ∀ k, ov.ownBlock = some k → lo ≤ k := fun k e => (h4.1.lt k e).1
  refine ⟨ov, M, n, D, rs, h1, by omega, by omega, ⟨own_lo h4.1 (fun k e => Nat.le_trans hl (hov k e)), h4.2⟩, h5, h6, h7, fun i hi hi' => (h9 i hi hi').kept (fun b h => .inl h) (fun b _ => rfl), fun b hb => ?_⟩
  rcases hb with hb | hb
  · have := h10 b hb; exact ⟨by omega, this.2⟩
  · exact ⟨hb.1, by omega, by omega, by omega, fun e => by have := hov b e.symm; omega⟩

/-- Nothing is bound; two trees are there. -/
def Rdy (lo : Nat) (W : World) (P p q : Nat) (a b : List C) : Prop := ∃ S, Bnd lo W P S [] ∧ TreeAt S W p a ∧ TreeAt S W q b

/-- Bindings that are none, and what they need. -/
def BNil (w : World) (e : Ending) (w' : World) : Prop := ∃ P, e = .returned (.pointer (some ⟨P, 0, none⟩)) ∧ (∃ S, Bnd w.heap.size w' P S []) ∧ Below w.heap.size w w'
theorem bindingsOf_nil (w : World) : Calls Try.prog 67 #[.slice none 0 0] w (BNil w) := by
  refine (bindingsOf_none none 0 w).mono ?_
  rintro e w' (⟨_, P, S, rfl, h, hb⟩ | ⟨h, _⟩)
  · exact ⟨P, rfl, ⟨S, h⟩, hb⟩
  · rw [show subOk [] = true from subOk_yes (fun k h => by simp at h)] at h; cases h
/-- A tree whose variables are so many on. -/
theorem shifted_tree (n : Nat) (hn : n ≤ 40) {lo : Nat} {p : Nat} {t : List C} {w : World} (hT : TreF lo w.heap.size w p t) (hok : ∀ c ∈ t, okC c = true) :
    Calls Try.prog 69 #[.pointer (some ⟨p, 0, none⟩), .int .i64 n] w fun e w' => ∃ q, e = .returned (.pointer (some ⟨q, 0, none⟩)) ∧ TreF w.heap.size w'.heap.size w' q (t.map (shiftC n)) ∧ Below w.heap.size w w' := by
  obtain ⟨z, h1, h2⟩ := hT
  refine (shifted_any n (by omega) (by omega) 40 _ p z w h1 (fun x hx => hok _ (by rw [← h2]; exact List.mem_map_of_mem hx)) (fun b h => h.2)).mono ?_
  rintro e w' ⟨q, z', rfl, hz, _, hT', hb⟩
  exact ⟨q, rfl, ⟨z', hT', by rw [hz, ← h2]; simp⟩, hb⟩

/-- Trees, bindings, then a tree. -/
theorem rdyA {lo : Nat} {W w1 w2 : World} {P p q : Nat} {a b : List C} (hlo : lo ≤ W.heap.size) (hq : TreF lo W.heap.size W q b) (hB : ∃ S, Bnd W.heap.size w1 P S []) (hb1 : Below W.heap.size W w1) (hp : TreF w1.heap.size w2.heap.size w2 p a) (hb2 : Below w1.heap.size w1 w2) : Rdy lo w2 P p q a b := by
  obtain ⟨S, hB⟩ := hB
  have h2 := (hB.older hlo hb1.size).fresh hb2 (Nat.le_trans hlo hb1.size)
  obtain ⟨z, k1, k2⟩ := hq
  obtain ⟨y, j1, j2⟩ := hp
  refine ⟨_, h2, ⟨y, j1.kept (fun b h => .inr h) (fun _ _ => rfl), j2⟩, ⟨z, k1.kept (fun b h => .inl (.inr h)) (fun b h => ?_), k2⟩⟩
  exact (hb2.block b (Nat.lt_of_lt_of_le h.2 hb1.size)).trans (hb1.block b h.2)
/-- Trees, then bindings. -/
theorem rdyB {lo : Nat} {W w1 w2 : World} {P p q : Nat} {a b : List C} (hlo : lo ≤ W.heap.size) (hq : TreF lo W.heap.size W q b) (hp : TreF W.heap.size w1.heap.size w1 p a) (hb1 : Below W.heap.size W w1) (hB : ∃ S, Bnd w1.heap.size w2 P S []) (hb2 : Below w1.heap.size w1 w2) : Rdy lo w2 P p q a b := by
  obtain ⟨S, hB⟩ := hB
  have h2 := hB.older (Nat.le_trans hlo hb1.size) hb2.size
  obtain ⟨z, k1, k2⟩ := hq
  obtain ⟨y, j1, j2⟩ := hp
  refine ⟨_, h2, ⟨y, j1.kept (fun b h => .inr ⟨Nat.le_trans hlo h.1, h.2⟩) (fun b h => hb2.block b h.2), j2⟩, ⟨z, k1.kept (fun b h => .inr ⟨h.1, Nat.lt_of_lt_of_le h.2 hb1.size⟩) (fun b h => ?_), k2⟩⟩
  exact (hb2.block b (Nat.lt_of_lt_of_le h.2 hb1.size)).trans (hb1.block b h.2)
theorem okB_nil : OkB [] := by
  refine ⟨?_, fun x h => by simp at h, fun _ => 0, ?_⟩
  · simp [Once]
  · intro u v h
    exact absurd h (by simp [getB, varIn])
theorem makeSame_rdy {lo P p q n : Nat} {a b : List C} {res : Option (List B)} {sf : List B} {w : World} (hlo : lo ≤ w.heap.size) (h : Rdy lo w P p q a b) (ha : Trm a) (hb : Trm b) (la : a.length ≤ 40) (lb : b.length ≤ 40) (hU : Uni n [] [(a, b)] res sf) :
    Calls Try.prog 68 #[.pointer (some ⟨P, 0, none⟩), .pointer (some ⟨p, 0, none⟩), .pointer (some ⟨q, 0, none⟩)] w fun e w' => e = .returned (.bool res.isSome) ∧ Below lo w w' := by
  obtain ⟨S, hB, hA, hC⟩ := h
  refine (makeSame_any lo P p q S [] sf a b n res w hlo hB hA hC hU (Room.begin hU okB_nil (fun x h => by simp at h) (fun x h => by simp at h) ha hb la lb)).mono ?_
  rintro e w' ⟨h | h, _, hb⟩
  · obtain ⟨s', rfl, rfl, _⟩ := h; exact ⟨rfl, hb⟩
  · obtain ⟨rfl, rfl⟩ := h; exact ⟨rfl, hb⟩
end Go.Proofs.Ytonpahhcfgdeoaa
