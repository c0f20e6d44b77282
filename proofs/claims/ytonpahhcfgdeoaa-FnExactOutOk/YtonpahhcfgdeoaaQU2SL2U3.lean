import Derived.Test.YtonpahhcfgdeoaaQFL1U1MS1MK1
import Derived.Test.YtonpahhcfgdeoaaQPB6
import Derived.Test.YtonpahhcfgdeoaaQD3D4SG1SL1SO1
/- The walks of the specification's l2Get (once more, with what it tells being in a block of places) and l2Walk. -/
namespace Go.Proofs.Ytonpahhcfgdeoaa
open Go.RowKit
set_option linter.unusedVariables false
set_option linter.unusedSimpArgs false

/-- Bindings at a place, with the slices that they hold. -/
def AtU (w : World) (lo b off : Nat) (s : List B) (us : List Value) : Prop :=
  ∀ i, (h : i < s.length) → (h' : i < us.length) → w.cell? ⟨b, off + i * 2, none⟩ = some (.int .i64 s[i].v) ∧ w.cell? ⟨b, off + i * 2 + 1, none⟩ = some us[i] ∧ OwnC w lo us[i] s[i].t

theorem OwnB.atU {w : World} {lo hi : Nat} {v : Value} {s : List B} (h : OwnB w lo hi v s) (hn : 0 < s.length) : ∃ g cap us, v = .slice (some ⟨g, 0, none⟩) s.length cap ∧ us.length = s.length ∧ AtU w lo g 0 s us := by
  obtain ⟨us, h1, h2, h3, h4, h5, h6⟩ := h
  have h2' := h2
  rcases h2.2 with ⟨e, hn'⟩ | ⟨g, cap', cur, e, hg, hh, hc, hm, _⟩
  · omega
  · subst e
    refine ⟨g, _, us, rfl, h1, fun i hi' hi'' => ?_⟩
    have f := flatB_get s us h1 i hi' hi''
    have e0 := h2'.cellAt (i * 2) (by omega)
    have e1 := h2'.cellAt (i * 2 + 1) (by omega)
    rw [Nat.zero_add]
    exact ⟨e0.trans f.1, e1.trans f.2, h3 i hi' hi''⟩

/-- What l2Get tells. -/
def GetOutS (s : List B) (v : Int) (w : World) (e : Ending) (w' : World) : Prop := ∃ a c, e = .returned (.slice a (getB s v).length c) ∧ (getB s v ≠ [] → TdT w' (.slice a (getB s v).length c) (getB s v)) ∧ Below w.heap.size w w'

theorem getOut_hit {s : List B} {v : Int} {w : World} {lo : Nat} {a : Option Addr} {n c : Nat} {t : List C} (hg : getB s v = t) (hn : n = t.length) (ho : OwnC w lo (.slice a n c) t) : GetOutS s v w (.returned (.slice a n c)) w := by
  subst hg
  subst hn
  exact ⟨a, c, rfl, fun h => own_tdT ho (List.length_pos_iff.2 h), Below.refl _ _⟩

set_option maxRecDepth 100000 in
set_option maxHeartbeats 1000000 in
theorem l2Get_at (b off cap lo : Nat) (s : List B) (us : List Value) (v : Int) (w : World) (hm : s.length ≤ 1048576) (hu : us.length = s.length) (hA : AtU w lo b off s us) :
    Calls Try.prog 90 #[.slice (some ⟨b, off, none⟩) s.length cap, .int .i64 v] w (GetOutS s v w) := by
  go_enter Try.func90, Try.ntmps90
  go_wp2
  go_loopw [5] (fun i wr => ∃ (k : Nat), k ≤ s.length ∧ i = .int .i64 k ∧ NotYet s v k ∧ wr = w) (fun i _ => s.length - (intOf i).toNat)
  case atStart => exact ⟨0, Nat.zero_le _, rfl, fun j _ h => absurd h (Nat.not_lt_zero _), rfl⟩
  case round =>
    obtain ⟨k, hk, rfl, hN, rfl⟩ := hrel
    by_cases hlt : k < s.length
    · obtain ⟨c0, c1, hO⟩ := hA k hlt (by omega)
      have HS := hide (hN.step hlt)
      have HH := hide (hN.hit hlt)
      clear hN
      obtain ⟨y, hy⟩ : ∃ y, y = s[k] := ⟨_, rfl⟩
      rw [← hy] at c0 hO HS HH
      clear hy
      obtain ⟨ua, uc, eu, _⟩ := hO.shape
      rw [eu] at c1 hO
      have HO := hide hO
      clear hO eu
      by_cases hv : y.v = v
      · have hb : (y.v == v) = true := by simpa using hv
        have HV := hide hv
        clear hv
        go_wp2
        go_ret
        exact getOut_hit (unhide HH (unhide HV)) rfl (unhide HO)
      · have hb : (y.v == v) = false := by simpa using hv
        go_wp2
        go_roundw
        case rel => exact ⟨k + 1, by omega, by go_num, unhide HS hv, by first | rfl | trivial⟩
        case measure => simp [intOf]; omega
    · have e : k = s.length := by omega
      subst e
      have HE := hide hN.all
      go_wp2
      go_ret
      exact ⟨_, 0, by rw [unhide HE]; rfl, fun h => absurd (unhide HE) h, cell_below _ _⟩

/-- The specification's l2Get, over bindings that are owned. -/
theorem l2Get_own (ao : Option Addr) (cap lo hi : Nat) (s : List B) (v : Int) (w : World) (hm : s.length ≤ 1048576) (hO : OwnB w lo hi (.slice ao s.length cap) s) :
    Calls Try.prog 90 #[.slice ao s.length cap, .int .i64 v] w (GetOutS s v w) := by
  by_cases h0 : s.length = 0
  · have hs : s = [] := List.length_eq_zero_iff.1 h0
    subst hs
    refine (l2Get_none ao cap v w).mono ?_
    rintro e w' ⟨a, c, rfl, _, _, _, hb⟩
    exact ⟨a, c, rfl, fun h => absurd rfl h, hb⟩
  · obtain ⟨g, cap', us, e, h1, hA⟩ := hO.atU (by omega)
    simp only [Value.slice.injEq] at e
    obtain ⟨rfl, _, rfl⟩ := e
    exact l2Get_at g 0 cap lo s us v w hm h1 hA

/-- How far l2Walk has come. -/
def WalkAt (s : List B) (x : List C) (w : World) (k : Nat) (xv : Value) (wr : World) : Prop := ∃ t, Now s k t x ∧ TdT wr xv t ∧ Below w.heap.size w wr

set_option maxRecDepth 100000 in
set_option maxHeartbeats 1000000 in
/-- The specification's l2Walk. -/
theorem l2Walk_any (ao : Option Addr) (cap lo hi : Nat) (s : List B) (tv : Value) (t x : List C) (n : Nat) (w : World) (hm : s.length ≤ 1048576) (hhi : hi ≤ w.heap.size) (hO : OwnB w lo hi (.slice ao s.length cap) s) (hT : TdT w tv t) (hN : Now s n t x) :
    Calls Try.prog 60 #[.slice ao s.length cap, tv] w fun e w' => ∃ u, e = .returned u ∧ TdT w' u x ∧ Below w.heap.size w w' := by
  have HN := hide hN
  have HT := hide hT
  clear hN
  obtain ⟨b0, o0, c0, cur0, rfl, _⟩ := hT
  go_enter Try.func60, Try.ntmps60
  go_wp2
  go_loopg [5] n (fun k xv wr => WalkAt s x w k xv wr)
  case atStart => exact ⟨t, unhide HN, unhide HT, Below.refl _ _⟩
  case round =>
    clear HN HT
    obtain ⟨t', hN, hT, hB⟩ := hrel
    have HT := hide hT
    obtain ⟨b, off, cp, cur, rfl, hA, h1, h2, hh⟩ := hT
    cases hN with
    | @stop c r hc =>
      obtain ⟨q0, q1, q2⟩ := hA 0 (by simp)
      simp only [List.getElem_cons_zero, Nat.zero_mul, Nat.add_zero] at q0 q1 q2
      by_cases hk : c.k = 1
      · have hkb : (c.k == 1) = true := by simpa using hk
        have hg := hc hk
        have HG := hide (l2Get_own ao cap lo hi s c.n _ hm (hO.below hhi hB))
        unfold GetOutS at HG
        rw [hg] at HG
        clear hc hk hA hh
        simp only [List.length_cons] at h1 ⊢
        go_wp2_with (go_at_call 90; refine (unhide HG).mono ?_; rintro e w2 ⟨ga, gc, rfl, _, hb2⟩; simp only [List.length_nil])
        go_ret
        exact ⟨_, rfl, (unhide HT).below hb2, bstep hB hb2⟩
      · have hkb : (c.k == 1) = false := by simpa using hk
        clear hc hk hA hh
        simp only [List.length_cons] at h1 ⊢
        go_wp2
        go_ret
        exact ⟨_, rfl, unhide HT, hB⟩
    | @on n' c r _ hk hg hN' =>
      obtain ⟨q0, q1, q2⟩ := hA 0 (by simp)
      simp only [List.getElem_cons_zero, Nat.zero_mul, Nat.add_zero] at q0 q1 q2
      have hkb : (c.k == 1) = true := by simpa using hk
      have HG := hide (l2Get_own ao cap lo hi s c.n _ hm (hO.below hhi hB))
      have HN' := hide hN'
      have HNE := hide hg
      have hpos : (getB s c.n).length ≠ 0 := fun e => hg (List.length_eq_zero_iff.1 e)
      clear hk hA hh hN' hg
      simp only [List.length_cons] at h1 ⊢
      go_wp2_with (go_at_call 90; refine (unhide HG).mono ?_; rintro e w2 ⟨ga, gc, rfl, hT2, hb2⟩; have HT2 := hide (hT2 (unhide HNE)); clear hT2)
      go_roundg n'
      case rel => exact ⟨_, unhide HN', unhide HT2, bstep hB hb2⟩
      case measure => omega
end Go.Proofs.Ytonpahhcfgdeoaa

/- The walk of l2Leads once more, over more bindings. -/
namespace Go.Proofs.Ytonpahhcfgdeoaa
open Go.RowKit
set_option linter.unusedVariables false
set_option linter.unusedSimpArgs false

set_option maxRecDepth 100000 in
set_option maxHeartbeats 4000000 in
theorem l2Leads_wide (ao : Option Addr) (cap : Nat) (s : List B) (bo : Option Addr) (cp : Nat) (t : List C) (w : World) (hs : s.length ≤ 1048576) (ht : t.length ≤ 1048576) (hst : tot s ≤ 4194304) (hgl0 : ∀ v, (getB s v).length ≤ 1048576) (hA : RowB w ao s) (hT : Row w bo t) :
    Calls Try.prog 91 #[.slice ao s.length cap, .slice bo t.length cp] w fun e w' => ∃ v out, e = .returned v ∧ OwnI w' w.heap.size v out ∧ (∀ x, x ∈ out ↔ Reach s t x) ∧ out.length ≤ 8388608 ∧ Below w.heap.size w w' := by
  obtain ⟨i0, hi, hz0, hz1, hz2⟩ := info_parts Try.infoInt
  have hN : (allV s t).length ≤ 8388608 := by rw [allV_len, tot_sum]; omega
  go_enter Try.func91, Try.ntmps91
  go_wp2_with fail
  refine (specTrmFree_any bo cp t _ ht hT).mono ?_
  rintro e w1 ⟨v1, rfl, hO1, hb1⟩
  go_wp2
  go_loopw [5, 6] (fun o i wr => ∃ (k : Nat) (out : List Int), i = .int .i64 k ∧ OwnI wr w.heap.size o out ∧ Lead s t out k ∧ Below w.heap.size w wr) (fun _ i _ => 8388608 - (intOf i).toNat)
  case atStart => exact ⟨0, _, rfl, hO1, Lead.begin s t, hb1⟩
  case round =>
    obtain ⟨k, out, rfl, hO, hL, hB⟩ := hrel
    have hol : out.length ≤ 8388608 := Nat.le_trans hL.len hN
    have hkl := hL.kle
    have HL := hide hL
    clear hL hO1
    obtain ⟨oa, oc, rfl, hRo⟩ := hO.shape
    by_cases hlt : k < out.length
    · obtain ⟨g, off, ea, hAo⟩ : ∃ b off, oa = some ⟨b, off, none⟩ ∧ AtI wr b off out := by
        rcases hRo with h | h
        · rw [h] at hlt; simp at hlt
        · exact h
      subst ea
      have c0 := hAo k hlt
      have HM : Hid (MoreAt s t k out[k] (freeOf (getB s out[k])) 0 out) := MoreAt.start (unhide HL) hlt
      obtain ⟨u, hu⟩ : ∃ u, u = out[k] := ⟨_, rfl⟩
      rw [← hu] at c0 HM
      clear hu
      have HG := hide (l2Get_any ao cap s u wr hs (hA.below hB))
      have hgl : (getB s u).length ≤ 1048576 := hgl0 u
      go_wp2_with fail
      refine (unhide HG).mono ?_
      clear HG
      rintro e w2 ⟨ga, gc, rfl, _, _, hRg, hb2⟩
      go_wp2_with fail
      refine (specTrmFree_any ga gc (getB s u) _ hgl hRg).mono ?_
      rintro e w3 ⟨vm, rfl, hOm, hb3⟩
      have hO3 : OwnI w3 w.heap.size (.slice (some ⟨g, off, none⟩) out.length oc) out := (hO.below hb2).below hb3
      have hd3 : vm.ownBlock = none ∨ vm.ownBlock ≠ (Value.slice (some ⟨g, off, none⟩) out.length oc).ownBlock := by
        cases hv : vm.ownBlock with
        | none => exact .inl rfl
        | some q =>
          right
          intro e
          have h1 := (hOm.lt q hv).1
          have h2 := (hO.lt q e.symm).2
          have := hb2.size
          omega
      have hml : (freeOf (getB s u)).length ≤ 1048576 := Nat.le_trans (freeOf_len _) hgl
      obtain ⟨mo, hmo⟩ : ∃ mo, mo = freeOf (getB s u) := ⟨_, rfl⟩
      have HMO := hide hmo
      rw [← hmo] at hOm HM hml
      clear hmo
      obtain ⟨ma, mc, rfl, hRm⟩ := hOm.shape
      have hB3 := bstep (bstep hB hb2) hb3
      have HO := hide hO
      have HD3 := hide hd3
      clear hO hd3 hRo hAo c0 hRg
      obtain ⟨w3s, hw3s⟩ : ∃ n, n = w2.heap.size := ⟨_, rfl⟩
      rw [← hw3s] at hOm
      clear hw3s
      go_wp2
      go_loopw [5, 8] (fun o i wq => ∃ (j : Nat) (out : List Int), j ≤ mo.length ∧ i = .int .i64 j ∧ OwnI wq w.heap.size o out ∧ OwnI wq w3s (.slice ma mo.length mc) mo ∧ ((Value.slice ma mo.length mc).ownBlock = none ∨ (Value.slice ma mo.length mc).ownBlock ≠ o.ownBlock) ∧ MoreAt s t k u mo j out ∧ Below w.heap.size w wq) (fun _ i _ => mo.length - (intOf i).toNat)
      case atStart => exact ⟨0, out, Nat.zero_le _, rfl, hO3, hOm, unhide HD3, unhide HM, hB3⟩
      case round =>
        clear hO3 hOm HM hB3 HO HD3 hol hkl hlt HL hRm
        obtain ⟨j, ou, hj, rfl, hO, hOm, hd, hM, hB⟩ := hrel
        have hol : ou.length ≤ 8388608 := Nat.le_trans hM.1.len hN
        have HM := hide hM
        have HDD := hide hd
        clear hM hd
        obtain ⟨oa, oc, rfl, hRo⟩ := hO.shape
        have hRm := hOm.row
        by_cases hlt : j < mo.length
        · rcases hRm with h | ⟨mb, moff, rfl, hAm⟩
          · rw [h] at hlt; simp at hlt
          have d0 := hAm j hlt
          have HOLD : Hid (mo[j] ∈ ou → MoreAt s t k u mo (j + 1) ou) := fun h => (unhide HM).old hlt h
          have HNEW : Hid (mo[j] ∉ ou → MoreAt s t k u mo (j + 1) (ou ++ [mo[j]])) := fun h => by
            have hmo := unhide HMO
            have hm := unhide HM
            subst hmo
            exact hm.new hlt h
          obtain ⟨x, hx⟩ : ∃ x, x = mo[j] := ⟨_, rfl⟩
          rw [← hx] at d0 HOLD HNEW
          clear hx
          have hmbl : mb < wr.heap.size := World.block_lt_of_cell? wr ⟨mb, _, none⟩ d0
          by_cases hin : x ∈ ou
          · have hdd : decide (x ∈ ou) = true := by simpa using hin
            have HI := hide (unhide HOLD hin)
            go_wp2_with (go_at_call 89; refine (l1Has_any oa oc ou x _ (by unfold maxLen; omega) hRo).mono ?_; rw [hdd]; rintro e w4 ⟨rfl, rfl⟩)
            go_roundw
            case rel => exact ⟨j + 1, ou, by omega, by go_num, hO, hOm, unhide HDD, unhide HI, hB⟩
            case measure => simp [intOf]; omega
          · have hdd : decide (x ∈ ou) = false := by simpa using hin
            have HI := hide (unhide HNEW hin)
            have HA2 := hide (fun (w1 : World) (g' cap' : Nat) => app_two (w1 := w1) (g' := g') (cap' := cap') (x := x) hO hOm (unhide HDD))
            have hd1 := ((cell_below wr (.cells #[.int .i64 x] 3)).cell (p := ⟨mb, moff + j, none⟩) hmbl).trans d0
            go_wp2_with (first | (go_at_call 89; refine (l1Has_any oa oc ou x _ (by unfold maxLen; omega) hRo).mono ?_; rw [hdd]; rintro e w4 ⟨rfl, rfl⟩) | (at_builtin; refine wpList_append_lies _ rfl _ _ 87 rfl w.heap.size 3 i0 (.int .i64 0) 1 8 Try.underlying87 hi hz0 hz1 hz2 rfl (by decide) _ ou.length _ rfl (World.ownsRow.alloc hO _) ⟨w4.heap.size, 0, none⟩ 1 1 [.int .i64 x] rfl rfl (cell_one_new _ _ _) (by simp [Value.oneCell']) (by omega) (by unfold maxLen; omega) (by omega) (by have := hB.size; simp; omega) (w4.heap.size + 1) (by simp) ?_))
            intro g' cap' w5 hown' hgrow hat hgl'
            have R := unhide HA2 _ _ _ hown' hgrow hat
            have hB5 : Below w.heap.size w w5 := (hB.alloc hB.size _).grown hgrow (by have := hB.size; simp; omega) (fun q e => (hO.lt q e).1)
            have HR := hide R
            have hll : (ou ++ [x]).length = ou.length + 1 := by simp
            rw [hll] at HR
            clear R hown' hgrow hat hgl' hO hOm HA2 d0 hd1 hRo hAm
            go_wp2
            go_roundw
            case rel => exact ⟨j + 1, ou ++ [x], by omega, by go_num, (unhide HR).1, (unhide HR).2.1, (unhide HR).2.2, unhide HI, hB5⟩
            case measure => simp [intOf]; omega
        · have hjl : j = mo.length := by omega
          subst hjl
          have HD : Hid (Lead s t ou (k + 1)) := by
            have hm := unhide HM
            have hmo := unhide HMO
            subst hmo
            exact hm.done
          have hk2 : k + 1 ≤ 8388608 := Nat.le_trans (unhide HD).kle hol
          go_wp2
          go_roundw
          case rel => exact ⟨k + 1, ou, by go_num, hO, unhide HD, hB⟩
          case measure => simp [intOf]; omega
    · have e : k = out.length := by omega
      subst e
      go_wp2
      go_ret
      exact ⟨_, out, rfl, hO, (unhide HL).done, hol, hB⟩
end Go.Proofs.Ytonpahhcfgdeoaa

/- The walk of the specification's l2Bind. -/
namespace Go.Proofs.Ytonpahhcfgdeoaa
open Go.RowKit
set_option linter.unusedVariables false
set_option linter.unusedSimpArgs false

/-- What l2Bind tells where a variable may be bound. -/
def BindOut (lo : Nat) (s : List B) (sv : Value) (w : World) (e : Ending) (w' : World) : Prop := ∃ u, e = .returned (.tuple #[u, .bool true]) ∧ OwnB w' lo w'.heap.size u s ∧ w.grownBy w' sv.ownBlock ∧ ∀ k, u.ownBlock = some k → sv.ownBlock = some k ∨ w.heap.size ≤ k

set_option maxRecDepth 100000 in
set_option maxHeartbeats 2000000 in
theorem l2Bind_ring (ao : Option Addr) (cap lo hi : Nat) (s : List B) (v : Int) (tv : Value) (t : List C) (w : World) (hm : s.length ≤ 1048576) (ht : t.length ≤ 1048576) (hst : tot s ≤ 4194304) (hgl : ∀ v, (getB s v).length ≤ 1048576) (hO : OwnB w lo hi (.slice ao s.length cap) s) (hT : TdT w tv t) (hr : Reach s t v) :
    Calls Try.prog 61 #[.slice ao s.length cap, .int .i64 v, tv] w fun e w' => ∃ u, e = .returned (.tuple #[u, .bool false]) ∧ Below w.heap.size w w' := by
  obtain ⟨b, off, cp, cur, rfl, hA, h1, h2, hh⟩ := hT
  have HL := hide (l2Leads_wide ao cap s (some ⟨b, off, none⟩) cp t w hm ht hst hgl hO.row (.inr ⟨b, off, rfl, hA⟩))
  have HR := hide hr
  clear hr hA hh
  go_enter Try.func61, Try.ntmps61
  go_wp2_with (first | (go_at_call 91; refine (unhide HL).mono ?_; clear HL; rintro e w2 ⟨v2, out, rfl, hO2, hL2, hol2, hb2⟩; obtain ⟨oa, oc, rfl, hRo⟩ := hO2.shape; have hdd : decide (v ∈ out) = true := by (have := (hL2 v).2 (unhide HR); simpa using this)) | (go_at_call 89; refine (l1Has_any oa oc out v _ (by unfold maxLen; omega) hRo).mono ?_; rw [hdd]; rintro e w3 ⟨rfl, rfl⟩))
  go_ret2
  exact ⟨_, rfl, bstep hb2 (cell_below _ _)⟩

set_option maxRecDepth 100000 in
set_option maxHeartbeats 2000000 in
theorem l2Bind_yes (ao : Option Addr) (cap lo hi : Nat) (s : List B) (v : Int) (tv : Value) (t : List C) (w : World) (hm : s.length ≤ 1000000) (hp : 1 ≤ t.length) (ht : t.length ≤ 1048576) (hst : tot s ≤ 4194304) (hgl : ∀ v, (getB s v).length ≤ 1048576) (hhi : hi ≤ w.heap.size) (hlo : lo ≤ w.heap.size) (hO : OwnB w lo hi (.slice ao s.length cap) s) (hT : TdT w tv t) (hr : ¬ Reach s t v) :
    Calls Try.prog 61 #[.slice ao s.length cap, .int .i64 v, tv] w (BindOut lo (s ++ [⟨v, t⟩]) (.slice ao s.length cap) w) := by
  obtain ⟨i0, hi0, hz0, hz1, hz2⟩ := info_parts Try.infoSub
  obtain ⟨j0, hj, hy0, hy1, hy2⟩ := info_parts Try.infoCell
  obtain ⟨b, off, cp, cur, rfl, hA, h1, h2, hh⟩ := hT
  have HL := hide (l2Leads_wide ao cap s (some ⟨b, off, none⟩) cp t w (by omega) ht hst hgl hO.row (.inr ⟨b, off, rfl, hA⟩))
  have HR := hide hr
  clear hr hh
  obtain ⟨us, q1, q2, q3, q4, q5, q6⟩ := hO
  go_enter Try.func61, Try.ntmps61
  go_wp2_with (first | (go_at_call 91; refine (unhide HL).mono ?_; clear HL; rintro e w2 ⟨v2, out, rfl, hO2, hL2, hol2, hb2⟩; obtain ⟨oa, oc, rfl, hRo⟩ := hO2.shape; have hdd : decide (v ∈ out) = false := by (have := fun h => unhide HR ((hL2 v).1 h); simpa using this)) | (go_at_call 89; refine (l1Has_any oa oc out v _ (by unfold maxLen; omega) hRo).mono ?_; rw [hdd]; rintro e w3 ⟨rfl, rfl⟩) | (at_builtin; refine wpList_append_lies _ rfl _ _ 28 rfl w3.heap.size 67 j0 _ 3 32 Try.underlying28 hj hy0 hy1 hy2 rfl (by decide) _ 0 [] rfl (World.ownsRow_made _ #[] 0 (by simp) (by simp [maxLen]) rfl) ⟨b, off, none⟩ t.length cp (flat t) rfl (flat_length t) ((hA.below hb2).below (cell_below _ _)).each (flat_one t) (by omega) (by unfold maxLen; omega) (by omega) (by simp) (w3.heap.size + 1) (by simp) ?_; intro g1 cap1 w4 hown1 hgr1 hat1 hgl1; have hgr1 : (w3.alloc (.cells #[] 67)).grownBy w4 (some w3.heap.size) := hgr1; have hb4 : Below w3.heap.size w3 w4 := (cell_below w3 _).grown hgr1 (by simp) (fun k e => by simp at e; omega); have hB4 := bstep hb2 hb4; have hs4 := hB4.size) | (at_builtin; refine wpList_append_lies _ rfl _ _ 63 rfl lo 124 i0 _ 2 32 Try.underlying63 hi0 hz0 hz1 hz2 rfl (by decide) _ s.length _ rfl (own_below (own_below q2 hB4) (cell_below _ _)) ⟨w4.heap.size, 0, none⟩ 1 1 [.int .i64 v, .slice (some ⟨g1, 0, none⟩) t.length cap1] rfl rfl (two_at w4 _ _ _ _ rfl) (by simp [Value.oneCell']) (by omega) (by unfold maxLen; omega) (by omega) (by simp; omega) (w4.heap.size + 1) (by simp) ?_; intro g2 cap2 w5 hown2 hgr2 hat2 hgl2))
  have hO1 : OwnC w4 w3.heap.size (.slice (some ⟨g1, 0, none⟩) t.length cap1) t := by simpa [OwnC] using hown1
  have hw3 := hb2.size
  have hO2 : OwnC (w4.alloc (.cells #[.int .i64 v, .slice (some ⟨g1, 0, none⟩) t.length cap1] 124)) lo (.slice (some ⟨g1, 0, none⟩) t.length cap1) t := own_below (own_lo hO1 (fun k e => by have := (hO1.lt k e).1; omega)) (cell_below _ _)
  have hF := ownB_push (x := ⟨v, t⟩) (hi := w3.heap.size) (hi' := w5.heap.size) q1 (own_below (own_below q2 hB4) (cell_below _ _)) (fun i q q' => own_below (own_below (q3 i q q') hB4) (cell_below _ _)) q4 (fun u hu k e => by have := q5 u hu k e; omega) hO2 (fun k e => (hO1.lt k e).1) hown2 (fun k q q' => hgr2.block k q q') hgr2.size hgl2
  have hG : w.grownBy w5 (Value.slice ao s.length cap).ownBlock := by
    have h0 : w.grownBy (w4.alloc (.cells #[.int .i64 v, .slice (some ⟨g1, 0, none⟩) t.length cap1] 124)) (Value.slice ao s.length cap).ownBlock := ⟨(bstep hB4 (cell_below _ _)).os, (bstep hB4 (cell_below _ _)).tape, (bstep hB4 (cell_below _ _)).output, (bstep hB4 (cell_below _ _)).size, fun k hk _ => (bstep hB4 (cell_below _ _)).block k hk⟩
    exact ⟨hgr2.os.trans h0.os, hgr2.tape.trans h0.tape, hgr2.output.trans h0.output, Nat.le_trans h0.size hgr2.size, fun k hk hne => (hgr2.block k (Nat.lt_of_lt_of_le hk h0.size) hne).trans (h0.block k hk hne)⟩
  have HF := hide hF
  have HG := hide hG
  have HH : Hid (∀ k, (Value.slice (some ⟨g2, 0, none⟩) (s.length + 1) cap2).ownBlock = some k → (Value.slice ao s.length cap).ownBlock = some k ∨ w.heap.size ≤ k) := fun k e => by
    have e' : g2 = k := by simpa [Value.ownBlock] using e
    subst e'
    rcases hat2 with h | h
    · exact .inl h
    · exact .inr (by omega)
  clear hF hG hO1 hO2 hown1 hown2 hgr1 hgr2 q2 q3 q4 q5 q6
  go_ret2
  exact ⟨_, rfl, by simpa using unhide HF, unhide HG, unhide HH⟩
end Go.Proofs.Ytonpahhcfgdeoaa
