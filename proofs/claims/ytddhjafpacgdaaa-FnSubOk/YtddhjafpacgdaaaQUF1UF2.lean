import Derived.Test.YtddhjafpacgdaaaQMS2
import Derived.Test.YtddhjafpacgdaaaQTB1
import Derived.Test.YtddhjafpacgdaaaQD4SG1SL1
/- What SubUnify tells; the walks of unify and of the program's SubUnify. -/
namespace Go.Proofs.Ytddhjafpacgdaaa
open Go.RowKit Go.Maps
set_option linter.unusedVariables false
set_option linter.unusedSimpArgs false

/-- What is full of both, what comes of making them the same, and what is full of the first one then. -/
structure UW (s : List B) (a b a' b' : List C) (res : Option (List B)) (sf : List B) (a'' : List C) : Prop where
  ea : ∃ n, Exp s n a a'
  eb : ∃ n, Exp s n b b'
  un : ∃ n, Uni n s [(a, b)] res sf
  ec : ∀ s', res = some s' → ∃ n, Exp s' n a a''
theorem uw_all {s : List B} {a b : List C} (hs : OkB s) (ha : Trm a) (hb : Trm b) : ∃ a' b' res sf a'', UW s a b a' b' res sf a'' := by
  obtain ⟨ρ, hρ⟩ := hs.rank
  obtain ⟨n1, a', h1⟩ := exp_all hρ a
  obtain ⟨n2, b', h2⟩ := exp_all hρ b
  have hp : Prs [(a, b)] := fun p hp => by simp at hp; subst hp; exact ⟨ha, hb⟩
  obtain ⟨n, res, sf, hU⟩ := uni_all hs hp
  cases res with
  | none => exact ⟨a', b', none, sf, [], ⟨⟨_, h1⟩, ⟨_, h2⟩, ⟨_, hU⟩, fun s' e => by cases e⟩⟩
  | some s' =>
    have hok := hU.ok hs hp
    have e := hok.2.2 s' rfl
    have hs' : OkB s' := by rw [e]; exact hok.1
    obtain ⟨ρ', hρ'⟩ := hs'.rank
    obtain ⟨n3, a'', h3⟩ := exp_all hρ' a
    exact ⟨a', b', some s', sf, a'', ⟨⟨_, h1⟩, ⟨_, h2⟩, ⟨_, hU⟩, fun s'' e => by cases e; exact ⟨_, h3⟩⟩⟩

/-- The bindings that are told. -/
def uwO (a' b' : List C) (res : Option (List B)) (a'' : List C) : List B := if a'.length ≤ 40 ∧ b'.length ≤ 40 then (match res with | some s' => if a''.length ≤ 40 then s' else [] | none => []) else []
/-- The code that is told. -/
def uwH (a' b' : List C) (res : Option (List B)) (a'' : List C) : Int := if a'.length ≤ 40 ∧ b'.length ≤ 40 then (match res with | some _ => if a''.length ≤ 40 then 1 else 3 | none => 2) else 3

/-- What unify leaves. -/
def UnOutP (lo : Nat) (S : Nat → Prop) (w : World) (P : Nat) (a' b' : List C) (res : Option (List B)) (a'' : List C) (e : Ending) (w' : World) : Prop :=
  e = .returned (.int .i64 (uwH a' b' res a'')) ∧ (uwH a' b' res a'' = 1 → ∃ s', res = some s' ∧ uwO a' b' res a'' = s' ∧ Bnd lo w' P S s') ∧ (uwH a' b' res a'' ≠ 1 → uwO a' b' res a'' = []) ∧ Below lo w w'

theorem uw_big {lo : Nat} {S : Nat → Prop} {w w' : World} {P : Nat} {a' b' : List C} {res : Option (List B)} {a'' : List C} (h : ¬ (a'.length ≤ 40 ∧ b'.length ≤ 40)) (hb : Below lo w w') : UnOutP lo S w P a' b' res a'' (.returned (.int .i64 3)) w' := by
  have e : uwH a' b' res a'' = 3 := by unfold uwH; rw [if_neg h]
  have e2 : uwO a' b' res a'' = [] := by unfold uwO; rw [if_neg h]
  exact ⟨by rw [e], fun h1 => by rw [e] at h1; omega, fun _ => e2, hb⟩
theorem uw_apart {lo : Nat} {S : Nat → Prop} {w w' : World} {P : Nat} {a' b' : List C} {a'' : List C} (h : a'.length ≤ 40 ∧ b'.length ≤ 40) (hb : Below lo w w') : UnOutP lo S w P a' b' none a'' (.returned (.int .i64 2)) w' := by
  have e : uwH a' b' none a'' = 2 := by unfold uwH; rw [if_pos h]
  have e2 : uwO a' b' none a'' = [] := by unfold uwO; rw [if_pos h]
  exact ⟨by rw [e], fun h1 => by rw [e] at h1; omega, fun _ => e2, hb⟩
theorem uw_last {lo : Nat} {S : Nat → Prop} {w w' : World} {P : Nat} {a' b' : List C} {s' : List B} {a'' : List C} (h : a'.length ≤ 40 ∧ b'.length ≤ 40) (h2 : ¬ a''.length ≤ 40) (hb : Below lo w w') : UnOutP lo S w P a' b' (some s') a'' (.returned (.int .i64 3)) w' := by
  have e : uwH a' b' (some s') a'' = 3 := by unfold uwH; rw [if_pos h]; simp [h2]
  have e2 : uwO a' b' (some s') a'' = [] := by unfold uwO; rw [if_pos h]; simp [h2]
  exact ⟨by rw [e], fun h1 => by rw [e] at h1; omega, fun _ => e2, hb⟩
theorem uw_done {lo : Nat} {S : Nat → Prop} {w w' : World} {P : Nat} {a' b' : List C} {s' : List B} {a'' : List C} (h : a'.length ≤ 40 ∧ b'.length ≤ 40) (h2 : a''.length ≤ 40) (hB : Bnd lo w' P S s') (hb : Below lo w w') : UnOutP lo S w P a' b' (some s') a'' (.returned (.int .i64 1)) w' := by
  have e : uwH a' b' (some s') a'' = 1 := by unfold uwH; rw [if_pos h]; simp [h2]
  have e2 : uwO a' b' (some s') a'' = s' := by unfold uwO; rw [if_pos h]; simp [h2]
  exact ⟨by rw [e], fun _ => ⟨s', rfl, e2, hB⟩, fun h1 => absurd e h1, hb⟩

set_option maxRecDepth 100000 in
set_option maxHeartbeats 2000000 in
theorem unify_any (lo P p q : Nat) (S : Nat → Prop) (s sf : List B) (a b a' b' a'' : List C) (res : Option (List B)) (w : World) (hlo : lo ≤ w.heap.size) (hB : Bnd lo w P S s) (hs : OkB s) (hrg : ∀ x ∈ s, 0 ≤ x.v ∧ x.v ≤ 99999) (hsh : ∀ x ∈ s, x.t.length ≤ 40) (hTa : TreeAt S w p a) (hTb : TreeAt S w q b) (ha : trm a = true) (hb : trm b = true) (hw : UW s a b a' b' res sf a'') :
    Calls Try.prog 77 #[.pointer (some ⟨P, 0, none⟩), .pointer (some ⟨p, 0, none⟩), .pointer (some ⟨q, 0, none⟩)] w (UnOutP lo S w P a' b' res a'') := by
  obtain ⟨⟨n1, hEa⟩, ⟨n2, hEb⟩, ⟨n, hU⟩, hEc⟩ := hw
  have hla := trm_len ha
  have hlb := trm_len hb
  have hTA := trm_Trm ha
  have hTB := trm_Trm hb
  have hp : Prs [(a, b)] := fun p hp => by simp at hp; subst hp; exact ⟨hTA, hTB⟩
  have hR := Room.begin hU hs hrg hsh hTA hTB hla.2 hlb.2
  have hsl : s.length ≤ 100000 := range_len hs.once hrg
  have hokT := okB_okT hs
  have hea := hEa.len
  have heb := hEb.len
  have hSl := hB.trees
  have hnil := nilCells
  have H1 := hide (full_any lo P p S s a a' n1 w (by omega) hB hs hTa hTA.2 hokT hEa)
  have H2 := hide (fun (w1 : World) (hb1 : Below w.heap.size w w1) => full_any lo P q S s b b' n2 w1 (by omega) (hB.below hb1) hs (hTb.kept (fun _ h => h) (fun x hx => hb1.block x (hSl x hx))) hTB.2 hokT hEb)
  have H3 := hide (fun (w1 : World) (hb1 : Below w.heap.size w w1) => makeSame_any lo P p q S s sf a b n res w1 (Nat.le_trans hlo hb1.size) (hB.below hb1) (hTa.kept (fun _ h => h) (fun x hx => hb1.block x (hSl x hx))) (hTb.kept (fun _ h => h) (fun x hx => hb1.block x (hSl x hx))) hU hR)
  have H4 := hide (fun (s' : List B) (hres : res = some s') (w1 : World) (hB1 : Bnd lo w1 P S s') (hk : ∀ x, S x → w1.heap[x]? = w.heap[x]?) => by
    have hok := hU.ok hs hp
    have e := hok.2.2 s' hres
    have hs' : OkB s' := by rw [e]; exact hok.1
    have hl' : s'.length ≤ 100000 := (hU.room hR s' hres).len
    obtain ⟨n3, h3⟩ := hEc s' hres
    exact (⟨full_any lo P p S s' a a'' n3 w1 (by omega) hB1 hs' (hTa.kept (fun _ h => h) hk) hTA.2 (okB_okT hs') h3, h3.len⟩ : (Calls Try.prog 83 #[.pointer (some ⟨P, 0, none⟩), .pointer (some ⟨p, 0, none⟩)] w1 (FlOut a'' w1)) ∧ a.length ≤ a''.length))
  clear hU hEa hEb hEc hR hp hTa hTb hTA hTB hokT hs hrg hsh hB ha hb
  go_enter Try.func77, Try.ntmps77
  go_wp2_with fail
  refine (unhide H1).mono ?_
  clear H1
  rintro e w1 ⟨v1, rfl, hv1, hvn1, hb1⟩
  by_cases h1 : a'.length ≤ 40
  · rw [if_pos h1] at hv1
    obtain ⟨g1, c1, rfl, _⟩ := row_cells' hv1 (by omega)
    clear hv1 hvn1
    go_wp2_with fail
    refine (unhide H2 w1 hb1).mono ?_
    rintro e w2 ⟨v2, rfl, hv2, hvn2, hb2⟩
    have hB2 := bstep hb1 hb2
    by_cases h2 : b'.length ≤ 40
    · rw [if_pos h2] at hv2
      obtain ⟨g2, c2, rfl, _⟩ := row_cells' hv2 (by omega)
      have HAB := hide (⟨h1, h2⟩ : a'.length ≤ 40 ∧ b'.length ≤ 40)
      clear hv2 hvn2 h1 h2
      go_wp2_with fail
      refine (unhide H3 w2 hB2).mono ?_
      rintro e w3 ⟨hor, hSk, hb3⟩
      have hB3 : Below lo w w3 := (hB2.mono hlo).trans hb3
      rcases hor with ⟨s', hres, rfl, hN3⟩ | ⟨hres, rfl⟩
      · obtain ⟨hcall, hlen⟩ := unhide H4 s' hres w3 hN3 (fun x hx => (hSk x hx).trans (hB2.block x (hSl x hx)))
        have H5 := hide hcall
        have HN3 := hide hN3
        have HRS := hide hres
        clear hcall hN3 hres hSk
        go_wp2_with fail
        refine (unhide H5).mono ?_
        rintro e w4 ⟨v4, rfl, hv4, hvn4, hb4⟩
        have hB4 : Below lo w w4 := hB3.trans (hb4.mono (Nat.le_trans hlo hB3.size))
        by_cases h3 : a''.length ≤ 40
        · rw [if_pos h3] at hv4
          obtain ⟨g4, c4, rfl, _⟩ := row_cells' hv4 (by omega)
          clear hv4 hvn4
          go_wp2
          go_ret
          rw [unhide HRS]
          exact uw_done (unhide HAB) h3 ((unhide HN3).below hb4) hB4
        · have e := hvn4 h3
          subst e
          clear hv4 hvn4
          go_wp2
          go_ret
          rw [unhide HRS]
          exact uw_last (unhide HAB) h3 hB4
      · have HRS := hide hres
        clear hres hSk
        go_wp2
        go_ret
        rw [unhide HRS]
        exact uw_apart (unhide HAB) hB3
    · have e := hvn2 h2
      subst e
      clear hv2 hvn2
      go_wp2
      go_ret
      exact uw_big (fun h => h2 h.2) (hB2.mono hlo)
  · have e := hvn1 h1
    subst e
    clear hv1 hvn1
    go_wp2
    go_ret
    exact uw_big (fun h => h1 h.1) (hb1.mono hlo)
end Go.Proofs.Ytddhjafpacgdaaa

/- The walk of the program's SubUnify. -/
namespace Go.Proofs.Ytddhjafpacgdaaa
open Go.RowKit Go.Maps
set_option linter.unusedVariables false
set_option linter.unusedSimpArgs false

theorem treeOf_any (bo : Option Addr) (cp : Nat) (t : List C) (w : World) (hcp : t.length ≤ cp) (hcm : cp ≤ maxLen) (hT : Row w bo t) (hFt : Fit t) :
    Calls Try.prog 67 #[.slice bo t.length cp] w fun e w' => (trm t = true ∧ ∃ p, e = .returned (.pointer (some ⟨p, 0, none⟩)) ∧ TreeAt (fun b => w.heap.size ≤ b ∧ b < w'.heap.size) w' p t ∧ Below w.heap.size w w') ∨ (trm t = false ∧ e = .returned (.pointer none) ∧ Below w.heap.size w w') := by
  cases h2 : trm t with
  | false =>
    refine (treeOf_no bo cp t w (Nat.le_trans hcp hcm) hT hFt h2).mono ?_
    rintro e w' ⟨rfl, hb⟩
    exact .inr ⟨rfl, rfl, hb⟩
  | true =>
    refine (treeOf_yes 0 bo cp t w hcp hcm (Nat.zero_le _) hT hFt h2).mono ?_
    rintro e w' ⟨p, z, rfl, hz, hnd, hTr, hb2⟩
    exact .inl ⟨rfl, p, rfl, gotT_at (n₀ := 0) (trm_len h2).2 hz hTr, hb2⟩

/-- What SubUnify tells, over witnesses. -/
def UM (s : List B) (a b : List C) (o : List B) (h : Int) : Prop :=
  ((subOk s = true ∧ trm a = true ∧ trm b = true) ∧ ∃ a' b' res sf a'', UW s a b a' b' res sf a'' ∧ o = uwO a' b' res a'' ∧ h = uwH a' b' res a'') ∨ (¬ (subOk s = true ∧ trm a = true ∧ trm b = true) ∧ o = [] ∧ h = 4)
theorem um_all (s : List B) (a b : List C) : ∃ o h, UM s a b o h := by
  by_cases hc : subOk s = true ∧ trm a = true ∧ trm b = true
  · obtain ⟨a', b', res, sf, a'', hw⟩ := uw_all (subOk_okB hc.1) (trm_Trm hc.2.1) (trm_Trm hc.2.2)
    exact ⟨_, _, .inl ⟨hc, a', b', res, sf, a'', hw, rfl, rfl⟩⟩
  · exact ⟨_, _, .inr ⟨hc, rfl, rfl⟩⟩

/-- What is told, in memory. -/
def UOutM (o : List B) (h : Int) (w : World) (e : Ending) (w' : World) : Prop := ∃ v, e = .returned (.tuple #[v, .int .i64 h]) ∧ OwnB w' w.heap.size w'.heap.size v o ∧ Below w.heap.size w w'
theorem ownB_nil (w : World) (lo hi : Nat) : OwnB w lo hi (.slice none 0 0) [] := ⟨[], rfl, by simpa [flatB] using World.ownsRow_nil w lo 51 2, fun i h => by simp at h, by simp, by simp, fun k e => by simp [Value.ownBlock] at e⟩

theorem subOk_parts {s : List B} (h : subOk s = true) : (∀ x ∈ s, 0 ≤ x.v ∧ x.v ≤ 99999) ∧ (∀ x ∈ s, trm x.t = true) := by
  have ha : AllOk s := by unfold subOk at h; simpa using h
  refine ⟨fun x hx => ?_, fun x hx => ?_⟩
  · obtain ⟨k, hk, rfl⟩ := List.getElem_of_mem hx
    exact (ha k hk).1
  · obtain ⟨k, hk, rfl⟩ := List.getElem_of_mem hx
    exact (ha k hk).2.1

set_option maxRecDepth 100000 in
set_option maxHeartbeats 2000000 in
/-- The program's SubUnify. -/
theorem implSubUnify_any (ao : Option Addr) (cap : Nat) (s : List B) (bo : Option Addr) (cp : Nat) (a : List C) (co : Option Addr) (cq : Nat) (b : List C) (o : List B) (h : Int) (w : World) (hs : s.length ≤ 1048576) (hst : tot s ≤ 1048576) (hcp : a.length ≤ cp) (hcm : cp ≤ maxLen) (hcq : b.length ≤ cq) (hcn : cq ≤ maxLen) (hA : RowB w ao s) (hF : FitB s) (hT : Row w bo a) (hFa : Fit a) (hT2 : Row w co b) (hFb : Fit b) (hM : UM s a b o h) :
    Calls Try.prog 35 #[.slice ao s.length cap, .slice bo a.length cp, .slice co b.length cq] w (UOutM o h w) := by
  have HM := hide hM
  have HWR : Hid (∀ (w' : World), ¬ (subOk s = true ∧ trm a = true ∧ trm b = true) → Below w.heap.size w w' → UOutM o h w (.returned (.tuple #[.slice none 0 0, .int .i64 4])) w') := fun w' hn hb => by
    rcases unhide HM with ⟨hc, _⟩ | ⟨_, rfl, rfl⟩
    · exact absurd hc hn
    · exact ⟨_, rfl, ownB_nil _ _ _, hb⟩
  have H2 := hide (fun (W : World) (hb : Below w.heap.size w W) => treeOf_any bo cp a W hcp hcm (hT.below hb) hFa)
  have H3 := hide (fun (W : World) (hb : Below w.heap.size w W) => treeOf_any co cq b W hcq hcn (hT2.below hb) hFb)
  clear hM hT hFa hT2 hFb
  go_enter Try.func35, Try.ntmps35
  go_wp2_with fail
  refine (bindingsOf_any ao cap s _ hs hst hA hF).mono ?_
  rintro e W1 (⟨h1, P, S, rfl, hN, hb1⟩ | ⟨h1, rfl, hb1⟩)
  · go_wp2_with fail
    refine (unhide H2 W1 hb1).mono ?_
    rintro e W2 (⟨ha, p, rfl, hTa, hb2⟩ | ⟨ha, rfl, hb2⟩)
    · have hB2 := bstep hb1 hb2
      go_wp2_with fail
      refine (unhide H3 W2 hB2).mono ?_
      rintro e W3 (⟨hb, q, rfl, hTb, hb3⟩ | ⟨hb, rfl, hb3⟩)
      · have hB3 := bstep hB2 hb3
        obtain ⟨a', b', res, sf, a'', hw, ho, hh⟩ : ∃ a' b' res sf a'', UW s a b a' b' res sf a'' ∧ o = uwO a' b' res a'' ∧ h = uwH a' b' res a'' := by
          rcases unhide HM with ⟨_, h⟩ | ⟨hn, _⟩
          · exact h
          · exact absurd ⟨h1, ha, hb⟩ hn
        obtain ⟨hrg, htr⟩ := subOk_parts h1
        have hOk := subOk_okB h1
        have hs2 := hb2.size
        have hs3 := hb3.size
        have hN2 := hN.fresh hb2 hb1.size
        have hN3 := hN2.fresh hb3 hB2.size
        have hTa3 : TreeAt (fun x => (S x ∨ (W1.heap.size ≤ x ∧ x < W2.heap.size)) ∨ (W2.heap.size ≤ x ∧ x < W3.heap.size)) W3 p a := hTa.kept (fun x hx => .inl (.inr hx)) (fun x hx => hb3.block x hx.2)
        have hTb3 : TreeAt (fun x => (S x ∨ (W1.heap.size ≤ x ∧ x < W2.heap.size)) ∨ (W2.heap.size ≤ x ∧ x < W3.heap.size)) W3 q b := hTb.kept (fun x hx => .inr hx) (fun x hx => rfl)
        have HU := hide (unify_any w.heap.size P p q _ s sf a b a' b' a'' res W3 hB3.size hN3 hOk hrg (fun x hx => (trm_len (htr x hx)).2) hTa3 hTb3 ha hb hw)
        have HTR : Hid (∀ s', res = some s' → (∀ x ∈ s', trm x.t = true) ∧ s'.length ≤ 1048576) := fun s' hres => by
          obtain ⟨n, hU⟩ := hw.un
          have hR := Room.begin hU hOk hrg (fun x hx => (trm_len (htr x hx)).2) (trm_Trm ha) (trm_Trm hb) (trm_len ha).2 (trm_len hb).2
          have hR' := hU.room hR s' hres
          refine ⟨fun x hx => ?_, Nat.le_trans hR'.len (by omega)⟩
          obtain ⟨⟨f, hf⟩, hok⟩ := hR'.ok.term x hx
          exact tree_trm hf (hR'.shortB x hx) hok
        subst ho
        subst hh
        clear hN hN2 hN3 hTa hTb hTa3 hTb3 hw hOk hrg htr h1 ha hb HWR H2 H3 HM
        go_wp2_with fail
        refine (unhide HU).mono ?_
        clear HU
        rintro e W4 ⟨rfl, hyes, hno, hb4⟩
        have hB4 : Below w.heap.size w W4 := hB3.trans hb4
        by_cases hd : uwH a' b' res a'' = 1
        · obtain ⟨s', hres, ho, hN4⟩ := hyes hd
          obtain ⟨htr', hl'⟩ := unhide HTR s' hres
          have HO := hide ho
          have HD := hide hd
          have hNc := hN4
          obtain ⟨ov, M, n, D, rs, q1, _⟩ := hNc
          obtain ⟨c0, c1, f0⟩ := q1.cells
          have HTB := hide (tellBinds_any w.heap.size P _ s' W4 ov hl' hN4 htr' c0)
          rw [hd]
          clear hyes hno hN4 q1 htr' ho hres HTR hd
          go_wp2_with fail
          refine (unhide HTB).mono ?_
          rintro e W5 ⟨v, rfl, hO5, hb5⟩
          have HF5 := hide (hO5.lo_le hB4.size)
          have hB5 := bstep hB4 hb5
          clear hO5
          go_wp2
          go_ret2
          exact ⟨v, by rw [unhide HD]; rfl, by rw [unhide HO]; exact unhide HF5, hB5⟩
        · have hdb : (uwH a' b' res a'' != 1) = true := by simpa using hd
          have HO := hide (hno hd)
          clear hyes hno hd HTR
          go_wp2
          go_ret2
          exact ⟨_, rfl, by rw [unhide HO]; exact ownB_nil _ _ _, hB4⟩
      · have HX := hide (unhide HWR W3 (fun hc => by rw [hb] at hc; cases hc.2.2) (bstep hB2 hb3))
        clear hb ha h1 hN hTa
        go_wp2
        go_ret2
        exact unhide HX
    · have hB2 := bstep hb1 hb2
      go_wp2_with fail
      refine (unhide H3 W2 hB2).mono ?_
      rintro e W3 (⟨hb, q, rfl, hTb, hb3⟩ | ⟨hb, rfl, hb3⟩)
      · have HX := hide (unhide HWR W3 (fun hc => by rw [ha] at hc; cases hc.2.1) (bstep hB2 hb3))
        clear hb ha h1 hN hTb
        go_wp2
        go_ret2
        exact unhide HX
      · have HX := hide (unhide HWR W3 (fun hc => by rw [ha] at hc; cases hc.2.1) (bstep hB2 hb3))
        clear hb ha h1 hN
        go_wp2
        go_ret2
        exact unhide HX
  · go_wp2_with fail
    refine (unhide H2 W1 hb1).mono ?_
    rintro e W2 (⟨ha, p, rfl, hTa, hb2⟩ | ⟨ha, rfl, hb2⟩)
    · have hB2 := bstep hb1 hb2
      go_wp2_with fail
      refine (unhide H3 W2 hB2).mono ?_
      rintro e W3 (⟨hb, q, rfl, hTb, hb3⟩ | ⟨hb, rfl, hb3⟩)
      · have HX := hide (unhide HWR W3 (fun hc => by rw [h1] at hc; cases hc.1) (bstep hB2 hb3))
        clear hb ha h1 hTa hTb
        go_wp2
        go_ret2
        exact unhide HX
      · have HX := hide (unhide HWR W3 (fun hc => by rw [h1] at hc; cases hc.1) (bstep hB2 hb3))
        clear hb ha h1 hTa
        go_wp2
        go_ret2
        exact unhide HX
    · have hB2 := bstep hb1 hb2
      go_wp2_with fail
      refine (unhide H3 W2 hB2).mono ?_
      rintro e W3 (⟨hb, q, rfl, hTb, hb3⟩ | ⟨hb, rfl, hb3⟩)
      · have HX := hide (unhide HWR W3 (fun hc => by rw [h1] at hc; cases hc.1) (bstep hB2 hb3))
        clear hb ha h1 hTb
        go_wp2
        go_ret2
        exact unhide HX
      · have HX := hide (unhide HWR W3 (fun hc => by rw [h1] at hc; cases hc.1) (bstep hB2 hb3))
        clear hb ha h1
        go_wp2
        go_ret2
        exact unhide HX
end Go.Proofs.Ytddhjafpacgdaaa
