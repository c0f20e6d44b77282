import Derived.Test.YtddhjafpacgdaaaQUF1UF2
import Derived.Test.YtddhjafpacgdaaaQU5
import Derived.Test.YtddhjafpacgdaaaQFL9
import Derived.Test.YtddhjafpacgdaaaQMU1RW1FL4FL8
import Derived.Test.YtddhjafpacgdaaaQW3W4
import Derived.Test.YtddhjafpacgdaaaQW6SB2SB3
/- The walks of l2Meet and of the specification's SubUnify. -/
namespace Go.Proofs.Ytddhjafpacgdaaa
open Go.RowKit
set_option linter.unusedVariables false
set_option linter.unusedSimpArgs false

/-- What l2Meet tells; it may have turned the bindings that it was given. -/
def MeetOut (o : List B) (h : Int) (lo : Nat) (sv : Value) (w : World) (e : Ending) (w' : World) : Prop := ∃ v, e = .returned (.tuple #[v, .int .i64 h]) ∧ OwnB w' lo w'.heap.size v o ∧ w.grownBy w' sv.ownBlock

theorem ownB_made (w : World) (lo : Nat) (hlo : lo ≤ w.heap.size) : OwnB (w.alloc (.cells #[] 51)) lo (w.alloc (.cells #[] 51)).heap.size (.slice (some ⟨w.heap.size, 0, none⟩) 0 0) [] :=
  ⟨[], rfl, by simpa [flatB] using World.ownsRow_made (base := lo) (e := 51) (size := 2) w #[] 0 hlo (by simp [maxLen]) rfl, fun i h => by simp at h, by simp, by simp, fun k e => by simp [Value.ownBlock] at e; simp; omega⟩
theorem grown3 {w w2 w3 : World} {row : Option Nat} (h : Below w.heap.size w w2) (hg : w2.grownBy w3 row) : w.grownBy w3 row := ⟨hg.os.trans h.os, hg.tape.trans h.tape, hg.output.trans h.output, Nat.le_trans h.size hg.size, fun k hk hn => (hg.block k (Nat.lt_of_lt_of_le hk h.size) hn).trans (h.block k hk)⟩
theorem grown4 {w w2 : World} {row : Option Nat} (h : Below w.heap.size w w2) : w.grownBy w2 row := ⟨h.os, h.tape, h.output, h.size, fun k hk _ => h.block k hk⟩
theorem tdT_at {w : World} {b off n cap : Nat} {t : List C} (h : TdT w (.slice (some ⟨b, off, none⟩) n cap) t) : At w b off t := by
  obtain ⟨b', off', cap', cur, e, hA, _⟩ := h
  simp only [Value.slice.injEq, Option.some.injEq, Addr.mk.injEq] at e
  obtain ⟨⟨rfl, rfl, _⟩, _, _⟩ := e
  exact hA

set_option maxRecDepth 100000 in
set_option maxHeartbeats 2000000 in
theorem l2Meet_any (ao : Option Addr) (cap lo : Nat) (s sf : List B) (ab aoff acp bb boff bcp : Nat) (a b a' b' a'' : List C) (res : Option (List B)) (w : World) (hlo : lo ≤ w.heap.size) (hO : OwnB w lo w.heap.size (.slice ao s.length cap) s) (hs : OkB s) (hrg : ∀ x ∈ s, 0 ≤ x.v ∧ x.v ≤ 99999) (hsh : ∀ x ∈ s, x.t.length ≤ 40)
    (hA : TdT w (.slice (some ⟨ab, aoff, none⟩) a.length acp) a) (hB : TdT w (.slice (some ⟨bb, boff, none⟩) b.length bcp) b) (hAt : At w ab aoff a) (hBt : At w bb boff b) (ha : trm a = true) (hb : trm b = true) (hw : UW s a b a' b' res sf a'') :
    Calls Try.prog 79 #[.slice ao s.length cap, .slice (some ⟨ab, aoff, none⟩) a.length acp, .slice (some ⟨bb, boff, none⟩) b.length bcp] w (MeetOut (uwO a' b' res a'') (uwH a' b' res a'') lo (.slice ao s.length cap) w) := by
  obtain ⟨⟨n1, hEa⟩, ⟨n2, hEb⟩, ⟨n, hU⟩, hEc⟩ := hw
  have hla := trm_len ha
  have hlb := trm_len hb
  have hR := Room.begin hU hs hrg hsh (trm_Trm ha) (trm_Trm hb) hla.2 hlb.2
  have hsl : s.length ≤ 100000 := range_len hs.once hrg
  have H1 := hide (l2Full_wide ao cap s ab aoff acp a a' n1 w (by omega) (fun v => Nat.le_trans (hR.getlen v) (by omega)) hla.2 hla.1 hEa hO.row hAt)
  have H2 := hide (fun (w1 : World) (hb1 : Below w.heap.size w w1) => l2Full_wide ao cap s bb boff bcp b b' n2 w1 (by omega) (fun v => Nat.le_trans (hR.getlen v) (by omega)) hlb.2 hlb.1 hEb (hO.row.below hb1) (hBt.below hb1))
  have H3 := hide (fun (w1 : World) (hb1 : Below w.heap.size w w1) => l2Unify_any ao cap lo s sf _ _ a b n res w1 (Nat.le_trans hlo hb1.size) ((hO.below (Nat.le_refl _) hb1).hi_le hb1.size) (hA.below hb1) (hB.below hb1) hU hR)
  have H4 := hide (fun (s' : List B) (hres : res = some s') => by
    have hR' := hU.room hR s' hres
    obtain ⟨n3, h3⟩ := hEc s' hres
    exact (⟨hR'.len, fun v => Nat.le_trans (hR'.getlen v) (by omega), n3, h3⟩ : s'.length ≤ 100000 ∧ (∀ v, (getB s' v).length ≤ 1048576) ∧ ∃ n3, Exp s' n3 a a''))
  obtain ⟨us, hO1, hO2, hO3, hO4, hO5, hO6⟩ := hO
  have HOWN : Hid (∀ k, (Value.slice ao s.length cap).ownBlock = some k → w.heap[k]? ≠ none) := fun k e he => by
    have := (hO2.lt k e).2
    rw [Array.getElem?_eq_none_iff] at he
    omega
  have HAP := hide (fun (w1 w2 : World) (hb1 : Below w.heap.size w w1) (hg : w1.grownBy w2 (Value.slice ao s.length cap).ownBlock) => (hA.below hb1).apart hg (own_below hO2 hb1) (by decide))
  clear hU hEa hEb hEc hR hs hrg hsh ha hb hO2 hO3
  go_enter Try.func79, Try.ntmps79
  go_wp2_with fail
  refine (unhide H1).mono ?_
  rintro e w1 ⟨v1, _, rfl, hb1⟩
  go_wp2_with fail
  refine (unhide H2 w1 hb1).mono ?_
  rintro e w2 ⟨v2, _, rfl, hb2⟩
  have hB2 := bstep hb1 hb2
  clear H1 H2
  by_cases h12 : a'.length ≤ 40 ∧ b'.length ≤ 40
  · have h1b : decide (a'.length ≤ 40) = true := by simpa using h12.1
    have h2b : decide (b'.length ≤ 40) = true := by simpa using h12.2
    have H12 := hide h12
    clear h12
    go_wp2_with fail
    refine (unhide H3 w2 hB2).mono ?_
    rintro e w3 ⟨u, rfl, hu, hg3, hub⟩
    have hG3 := grown3 hB2 hg3
    cases res with
    | none =>
      have HF : Hid (MeetOut (uwO a' b' none a'') (uwH a' b' none a'') lo (.slice ao s.length cap) w (.returned (.tuple #[.slice (some ⟨w3.heap.size, 0, none⟩) 0 0, .int .i64 2])) (w3.alloc (.cells #[] 51))) := by
        have e1 : uwH a' b' none a'' = 2 := by unfold uwH; rw [if_pos (unhide H12)]
        have e2 : uwO a' b' none a'' = [] := by unfold uwO; rw [if_pos (unhide H12)]
        rw [e1, e2]
        exact ⟨_, rfl, ownB_made w3 lo (Nat.le_trans hlo hG3.size), grownBy_then hG3 (cell_below _ _)⟩
      simp only [Option.isSome_none]
      clear hu hg3 hub hG3
      go_wp2
      go_ret2
      exact unhide HF
    | some s' =>
      have hO3 := hu s' rfl
      obtain ⟨hl', hgl', n3, hE3⟩ := unhide H4 s' rfl
      obtain ⟨ua, uc, rfl, _, _, hru⟩ := hO3.shape
      have hAt3 := tdT_at (unhide HAP w2 w3 hB2 hg3)
      have H5 := hide (l2Full_wide ua uc s' ab aoff acp a a'' n3 w3 (by omega) hgl' hla.2 hla.1 hE3 hru hAt3)
      have HO3 := hide hO3
      simp only [Option.isSome_some]
      clear hu hg3 hub hO3 hE3 hru hAt3 hgl'
      go_wp2_with fail
      refine (unhide H5).mono ?_
      rintro e w4 ⟨v4, _, rfl, hb4⟩
      by_cases h3 : a''.length ≤ 40
      · have h3b : decide (a''.length ≤ 40) = true := by simpa using h3
        have HF : Hid (MeetOut (uwO a' b' (some s') a'') (uwH a' b' (some s') a'') lo (.slice ao s.length cap) w (.returned (.tuple #[.slice ua s'.length uc, .int .i64 1])) w4) := by
          have e1 : uwH a' b' (some s') a'' = 1 := by unfold uwH; rw [if_pos (unhide H12)]; simp [h3]
          have e2 : uwO a' b' (some s') a'' = s' := by unfold uwO; rw [if_pos (unhide H12)]; simp [h3]
          rw [e1, e2]
          exact ⟨_, rfl, ((unhide HO3).below (Nat.le_refl _) hb4).hi_le hb4.size, grownBy_then hG3 hb4⟩
        clear h3
        go_wp2
        go_ret2
        exact unhide HF
      · have h3b : decide (a''.length ≤ 40) = false := by simpa using h3
        have HF : Hid (MeetOut (uwO a' b' (some s') a'') (uwH a' b' (some s') a'') lo (.slice ao s.length cap) w (.returned (.tuple #[.slice (some ⟨w4.heap.size, 0, none⟩) 0 0, .int .i64 3])) (w4.alloc (.cells #[] 51))) := by
          have e1 : uwH a' b' (some s') a'' = 3 := by unfold uwH; rw [if_pos (unhide H12)]; simp [h3]
          have e2 : uwO a' b' (some s') a'' = [] := by unfold uwO; rw [if_pos (unhide H12)]; simp [h3]
          rw [e1, e2]
          exact ⟨_, rfl, ownB_made w4 lo (Nat.le_trans hlo (Nat.le_trans hG3.size hb4.size)), grownBy_then (grownBy_then hG3 hb4) (cell_below _ _)⟩
        clear h3
        go_wp2
        go_ret2
        exact unhide HF
  · have HF : Hid (MeetOut (uwO a' b' res a'') (uwH a' b' res a'') lo (.slice ao s.length cap) w (.returned (.tuple #[.slice (some ⟨w2.heap.size, 0, none⟩) 0 0, .int .i64 3])) (w2.alloc (.cells #[] 51))) := by
      have e1 : uwH a' b' res a'' = 3 := by unfold uwH; rw [if_neg h12]
      have e2 : uwO a' b' res a'' = [] := by unfold uwO; rw [if_neg h12]
      rw [e1, e2]
      exact ⟨_, rfl, ownB_made w2 lo (Nat.le_trans hlo hB2.size), grown4 (bstep hB2 (cell_below _ _))⟩
    by_cases h1 : a'.length ≤ 40
    · have h1b : decide (a'.length ≤ 40) = true := by simpa using h1
      have h2b : decide (b'.length ≤ 40) = false := by
        have : ¬ b'.length ≤ 40 := fun h => h12 ⟨h1, h⟩
        simpa using this
      clear h12 h1
      go_wp2
      go_ret2
      exact unhide HF
    · have h1b : decide (a'.length ≤ 40) = false := by simpa using h1
      clear h12 h1
      go_wp2
      go_ret2
      exact unhide HF
end Go.Proofs.Ytddhjafpacgdaaa

/- The walk of the specification's SubUnify. -/
namespace Go.Proofs.Ytddhjafpacgdaaa
open Go.RowKit
set_option linter.unusedVariables false
set_option linter.unusedSimpArgs false

set_option maxRecDepth 100000 in
set_option maxHeartbeats 2000000 in
/-- The specification's SubUnify. -/
theorem specSubUnify_any (ao : Option Addr) (cap : Nat) (s : List B) (bo : Option Addr) (cp : Nat) (a : List C) (co : Option Addr) (cq : Nat) (b : List C) (o : List B) (h : Int) (base base2 : Nat) (w : World) (hs : s.length ≤ 1048576) (hst : tot s ≤ 1048576) (hma : a.length ≤ maxLen) (hmb : b.length ≤ maxLen) (hA : RowB w ao s) (hF : FitB s) (hT : OwnC w base (.slice bo a.length cp) a) (hFa : Fit a) (hT2 : OwnC w base2 (.slice co b.length cq) b) (hFb : Fit b) (hM : UM s a b o h) :
    Calls Try.prog 36 #[.slice ao s.length cap, .slice bo a.length cp, .slice co b.length cq] w (UOutM o h w) := by
  have HM := hide hM
  have HWR : Hid (∀ (w' : World), ¬ (subOk s = true ∧ trm a = true ∧ trm b = true) → Below w.heap.size w w' → UOutM o h w (.returned (.tuple #[.slice (some ⟨w'.heap.size, 0, none⟩) 0 0, .int .i64 4])) (w'.alloc (.cells #[] 51))) := fun w' hn hb => by
    rcases unhide HM with ⟨hc, _⟩ | ⟨_, rfl, rfl⟩
    · exact absurd hc hn
    · exact ⟨_, rfl, ownB_made w' w.heap.size hb.size, bstep hb (cell_below _ _)⟩
  have H1 := hide (specSubOk_any ao cap s w hs hst hA hF)
  have H2 := hide (fun (W : World) (hb : Below w.heap.size w W) => specTrmOk_any bo cp a W hma (OwnC.row (OwnC.below hT hb)) hFa)
  have H3 := hide (fun (W : World) (hb : Below w.heap.size w W) => specTrmOk_any co cq b W hmb (OwnC.row (OwnC.below hT2 hb)) hFb)
  have H4 := hide (fun (W : World) (hb : Below w.heap.size w W) (hp : ∀ x ∈ s, trm x.t = true) => l2Copy_any ao cap s W hs (fun x hx => ⟨(trm_len (hp x hx)).1, Nat.le_trans (trm_len (hp x hx)).2 (by omega)⟩) (hA.below hb))
  have HTA := hide hT
  have HTB := hide hT2
  clear hM hT hT2 hFa hFb hA hF
  go_enter Try.func36, Try.ntmps36
  go_wp2_with fail
  refine (unhide H1).mono ?_
  clear H1
  cases h1 : subOk s with
  | false =>
    rintro e w1 ⟨rfl, hb1⟩
    have HX := hide (unhide HWR w1 (fun hc => by rw [h1] at hc; cases hc.1) hb1)
    clear h1
    go_wp2
    go_ret2
    exact unhide HX
  | true =>
    rintro e w1 ⟨rfl, hb1⟩
    go_wp2_with fail
    refine (unhide H2 w1 hb1).mono ?_
    clear H2
    cases h2 : trm a with
    | false =>
      rintro e w2 ⟨rfl, hb2⟩
      have HX := hide (unhide HWR w2 (fun hc => by rw [h2] at hc; cases hc.2.1) (bstep hb1 hb2))
      clear h1 h2
      go_wp2
      go_ret2
      exact unhide HX
    | true =>
      rintro e w2 ⟨rfl, hb2⟩
      have hB2 := bstep hb1 hb2
      go_wp2_with fail
      refine (unhide H3 w2 hB2).mono ?_
      clear H3
      cases h3 : trm b with
      | false =>
        rintro e w3 ⟨rfl, hb3⟩
        have HX := hide (unhide HWR w3 (fun hc => by rw [h3] at hc; cases hc.2.2) (bstep hB2 hb3))
        clear h1 h2 h3
        go_wp2
        go_ret2
        exact unhide HX
      | true =>
        rintro e w3 ⟨rfl, hb3⟩
        have hB3 := bstep hB2 hb3
        obtain ⟨a', b', res, sf, a'', hw, ho, hh⟩ : ∃ a' b' res sf a'', UW s a b a' b' res sf a'' ∧ o = uwO a' b' res a'' ∧ h = uwH a' b' res a'' := by
          rcases unhide HM with ⟨_, h⟩ | ⟨hn, _⟩
          · exact h
          · exact absurd ⟨h1, h2, h3⟩ hn
        obtain ⟨hrg, htr⟩ := subOk_parts h1
        have hOk := subOk_okB h1
        have hla := trm_len h2
        have hlb := trm_len h3
        have H5 := hide (unhide H4 w3 hB3 htr)
        have hz3 := hB3.size
        have HMT : Hid (∀ (ca : Option Addr) (cc : Nat) (w4 : World), OwnB w4 w3.heap.size w4.heap.size (.slice ca s.length cc) s → Below w3.heap.size w3 w4 → Calls Try.prog 79 #[.slice ca s.length cc, .slice bo a.length cp, .slice co b.length cq] w4 (MeetOut (uwO a' b' res a'') (uwH a' b' res a'') w3.heap.size (.slice ca s.length cc) w4)) := fun ca cc w4 hO4 hb4 => by
          have hTa4 := OwnC.below (unhide HTA) (bstep hB3 hb4)
          have hTb4 := OwnC.below (unhide HTB) (bstep hB3 hb4)
          obtain ⟨ab, aoff, ea, hAt⟩ := (OwnC.row hTa4).resolve_left (fun e => by rw [e] at hla; simp at hla)
          obtain ⟨bb, boff, eb, hBt⟩ := (OwnC.row hTb4).resolve_left (fun e => by rw [e] at hlb; simp at hlb)
          subst ea
          subst eb
          exact l2Meet_any ca cc w3.heap.size s sf ab aoff cp bb boff cq a b a' b' a'' res w4 hb4.size hO4 hOk hrg (fun x hx => (trm_len (htr x hx)).2) (own_tdT hTa4 hla.1) (own_tdT hTb4 hlb.1) hAt hBt h2 h3 hw
        subst ho
        subst hh
        clear hw hrg htr hOk h1 h2 h3 HWR HM H4
        go_wp2_with fail
        refine (unhide H5).mono ?_
        rintro e w4 ⟨cv, rfl, hOc, hb4⟩
        obtain ⟨ca, cc, rfl, _⟩ := hOc.shape
        have hB4 := bstep hB3 hb4
        have H6 := hide (unhide HMT ca cc w4 hOc hb4)
        have HBK : Hid (∀ k, (Value.slice ca s.length cc).ownBlock = some k → w3.heap.size ≤ k) := by
          obtain ⟨us, _, q2, _⟩ := hOc
          exact fun k e => (q2.lt k e).1
        clear hOc HMT
        go_wp2_with fail
        refine (unhide H6).mono ?_
        rintro e w5 ⟨v, rfl, hO5, hg5⟩
        have HF : Hid (UOutM (uwO a' b' res a'') (uwH a' b' res a'') w (.returned (.tuple #[v, .int .i64 (uwH a' b' res a'')])) w5) := ⟨_, rfl, hO5.lo_le hz3, hB4.grown hg5 hB4.size (fun k e => Nat.le_trans hz3 (unhide HBK k e))⟩
        clear hO5 hg5
        go_wp2
        go_ret2
        exact unhide HF
end Go.Proofs.Ytddhjafpacgdaaa

/- The walks of markSubBindS, heldSubBindS. -/
namespace Go.Proofs.Ytddhjafpacgdaaa
open Go.RowKit
set_option linter.unusedVariables false
set_option linter.unusedSimpArgs false

/-- What markSubBindS writes, from the mark k on. -/
def marksB : List B → Nat → List B
  | [], _ => []
  | x :: s, k => ⟨k, marksC x.t.length (k + 1)⟩ :: marksB s (k + 1 + 3 * x.t.length)
/-- The mark behind all. -/
def endM (s : List B) (k : Nat) : Nat := k + s.length + 3 * tot s

theorem marksB_length : ∀ (s : List B) (k : Nat), (marksB s k).length = s.length
  | [], _ => rfl
  | x :: s, k => by simp [marksB, marksB_length s]
theorem endM_cons (x : B) (s : List B) (k : Nat) : endM (x :: s) k = endM s (k + 1 + 3 * x.t.length) := by simp [endM, tot]; omega
theorem marksB_snoc : ∀ (s : List B) (x : B) (k : Nat), marksB (s ++ [x]) k = marksB s k ++ [⟨(endM s k : Nat), marksC x.t.length (endM s k + 1)⟩]
  | [], x, k => by simp [marksB, endM, tot]
  | y :: s, x, k => by
      rw [List.cons_append]
      simp only [marksB, List.cons_append]
      rw [marksB_snoc s x _, endM_cons]
theorem endM_snoc (s : List B) (x : B) (k : Nat) : endM (s ++ [x]) k = endM s k + 1 + 3 * x.t.length := by simp [endM, tot_append, tot]; omega
theorem marksB_tot : ∀ (s : List B) (k : Nat), tot (marksB s k) = tot s
  | [], _ => rfl
  | x :: s, k => by simp [marksB, tot, marksC_length, marksB_tot s]
theorem marksB_get : ∀ (s : List B) (k i : Nat) (h : i < s.length) (h' : i < (marksB s k).length), (marksB s k)[i] = ⟨(endM (s.take i) k : Nat), marksC s[i].t.length (endM (s.take i) k + 1)⟩
  | x :: s, k, 0, h, h' => by simp [marksB, endM, tot]
  | x :: s, k, i + 1, h, h' => by
      simp only [marksB, List.getElem_cons_succ, List.take_succ_cons]
      rw [marksB_get s _ i (by simpa using h), endM_cons]

theorem rows_apart' {w : World} {b1 e1 s1 n1 b2 e2 s2 n2 : Nat} {v1 v2 : Value} {xs ys : List Value} (h1 : w.ownsRow b1 e1 s1 v1 n1 xs) (h2 : w.ownsRow b2 e2 s2 v2 n2 ys) (he : e1 ≠ e2) : v1 = .slice none 0 0 ∨ v1.ownBlock ≠ v2.ownBlock := by
  rcases h1.2 with ⟨rfl, _⟩ | ⟨g, cap, cur, rfl, _, hgb, _⟩
  · exact .inl rfl
  · refine .inr fun e => ?_
    rcases h2.2 with ⟨rfl, _⟩ | ⟨g', cap', cur', rfl, _, hgb', _⟩
    · simp [Value.ownBlock] at e
    · obtain rfl : g = g' := by simpa [Value.ownBlock] using e
      rw [hgb] at hgb'
      simp at hgb'
      exact he hgb'.2

theorem filterMap_one {us : List Value} (hn : (us.filterMap Value.ownBlock).Nodup) : ∀ {i j : Nat} (hi : i < us.length) (hj : j < us.length), us[i].ownBlock = us[j].ownBlock → us[i].ownBlock ≠ none → i = j := by
  induction us with
  | nil => intro i j hi; simp at hi
  | cons u us ih =>
    intro i j hi hj he hne
    have hn' : (us.filterMap Value.ownBlock).Nodup := by
      rw [List.filterMap_cons] at hn
      cases hu : u.ownBlock with
      | none => rw [hu] at hn; exact hn
      | some k => rw [hu] at hn; exact (List.nodup_cons.1 hn).2
    have hx : ∀ k, u.ownBlock = some k → k ∉ us.filterMap Value.ownBlock := fun k hu => by
      rw [List.filterMap_cons, hu] at hn; exact (List.nodup_cons.1 hn).1
    cases i with
    | zero =>
      cases j with
      | zero => rfl
      | succ j =>
        simp only [List.getElem_cons_zero, List.getElem_cons_succ] at he hne
        cases hu : u.ownBlock with
        | none => exact absurd hu hne
        | some k => exact absurd (List.mem_filterMap.2 ⟨_, List.getElem_mem (by simpa using hj), by rw [← he]; exact hu⟩) (hx k hu)
    | succ i =>
      cases j with
      | zero =>
        simp only [List.getElem_cons_zero, List.getElem_cons_succ] at he hne
        cases hu : u.ownBlock with
        | none => rw [he] at hne; exact absurd hu hne
        | some k => exact absurd (List.mem_filterMap.2 ⟨_, List.getElem_mem (by simpa using hi), by rw [he]; exact hu⟩) (hx k hu)
      | succ j =>
        simp only [List.getElem_cons_succ] at he hne
        rw [ih hn' (by simpa using hi) (by simpa using hj) he hne]

/-- A number of bindings is written. -/
theorem OwnB.set_var {w : World} {lo hi g cap : Nat} {s : List B} (h : OwnB w lo hi (.slice (some ⟨g, 0, none⟩) s.length cap) s) {i : Nat} (hi' : i < s.length) (z : Int) :
    (∃ a, w.cell? ⟨g, i * 2, none⟩ = some a) ∧ w.frozen? ⟨g, i * 2, none⟩ = false ∧ OwnB (w.setCell ⟨g, i * 2, none⟩ (.int .i64 z)) lo hi (.slice (some ⟨g, 0, none⟩) (s.set i ⟨z, s[i].t⟩).length cap) (s.set i ⟨z, s[i].t⟩) ∧ Btw lo hi w (w.setCell ⟨g, i * 2, none⟩ (.int .i64 z)) := by
  obtain ⟨us, h1, h2, h3, h4, h5, h6⟩ := h
  have hl := h2.1
  have hg := (h2.lt g rfl).1
  have hg2 := h6 g rfl
  have s1 := h2.stored (i * 2) (.int .i64 z)
  refine ⟨⟨_, (h2.cellAt (i * 2) (by omega)).trans (List.getElem?_eq_getElem (by omega))⟩, h2.frozenAt _, ⟨us, by simp [h1], ?_, fun j hj hj' => ?_, h4, h5, h6⟩, Btw.of_grown s1.2 (fun k e => by cases e; exact ⟨hg, hg2⟩)⟩
  · rw [← flatB_set_var s us h1 i z hi', List.length_set]
    exact s1.1
  · have ho := h3 j (by simpa using hj) hj'
    have : (s.set i ⟨z, s[i].t⟩)[j].t = (s[j]'(by simpa using hj)).t := by
      rw [List.getElem_set]
      split
      · rename_i e; subst e; rfl
      · rfl
    rw [this]
    refine World.ownsRow.kept ho s1.2 ?_
    rcases rows_apart' ho h2 (by decide) with e | e
    · exact .inl (by rw [e]; rfl)
    · exact .inr e

/-- A term of bindings is written. -/
theorem OwnB.set_term {w w' : World} {lo hi g cap : Nat} {s : List B} {i : Nat} {t : List C} {ao : Option Addr} {cp : Nat} (h : OwnB w lo hi (.slice (some ⟨g, 0, none⟩) s.length cap) s) (hi' : i < s.length) (ht : t.length = s[i].t.length)
    (hc : w.cell? ⟨g, i * 2 + 1, none⟩ = some (.slice ao s[i].t.length cp)) :
    OwnC w lo (.slice ao s[i].t.length cp) s[i].t ∧ ∀ {w' : World}, (OwnC w' lo (.slice ao s[i].t.length cp) t → w.grownBy w' (Value.slice ao s[i].t.length cp).ownBlock →
      OwnB w' lo hi (.slice (some ⟨g, 0, none⟩) (s.set i ⟨s[i].v, t⟩).length cap) (s.set i ⟨s[i].v, t⟩) ∧ Btw lo hi w w') := by
  obtain ⟨us, h1, h2, h3, h4, h5, h6⟩ := h
  have hl := h2.1
  have hiu : i < us.length := by omega
  have f := flatB_get s us h1 i hi' hiu
  have hu : us[i] = .slice ao s[i].t.length cp := by
    have := h2.cellAt (i * 2 + 1) (by omega)
    rw [this, f.2] at hc
    simpa using hc
  have hoi := h3 i hi' hiu
  rw [hu] at hoi
  refine ⟨hoi, fun {w'} ho hg => ?_⟩
  have hb5 := h5 us[i] (List.getElem_mem hiu)
  rw [hu] at hb5
  have hlo : ∀ k, (Value.slice ao s[i].t.length cp).ownBlock = some k → lo ≤ k := fun k e => (hoi.lt k e).1
  refine ⟨⟨us, by simp [h1], ?_, fun j hj hj' => ?_, h4, h5, h6⟩, Btw.of_grown hg (fun k e => ⟨hlo k e, hb5 k e⟩)⟩
  · rw [flatB_set_term, List.length_set]
    refine World.ownsRow.kept h2 hg ?_
    rcases rows_apart' h2 hoi (by decide) with e | e
    · cases e
    · exact .inr e
  · by_cases e : j = i
    · subst e
      rw [List.getElem_set_self, hu]
      exact ho
    · have hjs : j < s.length := by simpa using hj
      rw [List.getElem_set_ne (fun h => e h.symm)]
      refine World.ownsRow.kept (h3 j hjs hj') hg ?_
      cases hub : us[j].ownBlock with
      | none => exact .inl rfl
      | some k =>
        refine .inr fun e' => e ?_
        rw [← hu] at e'
        exact filterMap_one h4 hj' hiu (hub.trans e') (by rw [hub]; simp)
end Go.Proofs.Ytddhjafpacgdaaa
