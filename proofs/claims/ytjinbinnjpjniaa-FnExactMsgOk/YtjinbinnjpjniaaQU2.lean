/- The walks of the specification's l2Get (once more, with what it tells being in a block of places) and l2Walk. -/
import Derived.Test.YtjinbinnjpjniaaQFL1U1
import Derived.Test.YtjinbinnjpjniaaQPB6
namespace Go.Proofs.Ytjinbinnjpjniaa
open Go.RowKit
set_option linter.unusedVariables false
set_option linter.unusedSimpArgs false

/-- Bindings at a place, with the slices that they hold. -/
def AtU (w : World) (lo b off : Nat) (s : List B) (us : List Value) : Prop :=
  ∀ i, (h : i < s.length) → (h' : i < us.length) → w.cell? ⟨b, off + i * 2, none⟩ = some (.int .i64 s[i].v) ∧ w.cell? ⟨b, off + i * 2 + 1, none⟩ = some us[i] ∧ OwnC w lo us[i] s[i].t

theorem OwnB.atU {w : World} {lo hi : Nat} {v : Value} {s : List B} (h : OwnB w lo hi v s) (hn : 0 < s.length) : ∃ g cap us, v = .slice (some ⟨g, 0, none⟩) s.length cap ∧ us.length = s.length ∧ AtU w lo g 0 s us := by
  obtain ⟨us, h1, h2, h3, h4, h5, h6⟩ := h
  have h2' := h2
  rcases h2.2 with ⟨e, hn'⟩ | ⟨g, cap', cur, e, hg, hh, hc, hm, _⟩
  · omega
  · subst e
    refine ⟨g, _, us, rfl, h1, fun i hi' hi'' => ?_⟩
    have f := flatB_get s us h1 i hi' hi''
    have e0 := h2'.cellAt (i * 2) (by omega)
    have e1 := h2'.cellAt (i * 2 + 1) (by omega)
    rw [Nat.zero_add]
    exact ⟨e0.trans f.1, e1.trans f.2, h3 i hi' hi''⟩

/-- What l2Get tells. -/
def GetOutS (s : List B) (v : Int) (w : World) (e : Ending) (w' : World) : Prop := ∃ a c, e = .returned (.slice a (getB s v).length c) ∧ (getB s v ≠ [] → TdT w' (.slice a (getB s v).length c) (getB s v)) ∧ Below w.heap.size w w'

theorem getOut_hit {s : List B} {v : Int} {w : World} {lo : Nat} {a : Option Addr} {n c : Nat} {t : List C} (hg : getB s v = t) (hn : n = t.length) (ho : OwnC w lo (.slice a n c) t) : GetOutS s v w (.returned (.slice a n c)) w := by
  subst hg
  subst hn
  exact ⟨a, c, rfl, fun h => own_tdT ho (List.length_pos_iff.2 h), Below.refl _ _⟩

set_option maxRecDepth 100000 in
set_option maxHeartbeats 1000000 in
theorem l2Get_at (b off cap lo : Nat) (s : List B) (us : List Value) (v : Int) (w : World) (hm : s.length ≤ 1048576) (hu : us.length = s.length) (hA : AtU w lo b off s us) :
    Calls Try.prog 95 #[.slice (some ⟨b, off, none⟩) s.length cap, .int .i64 v] w (GetOutS s v w) := by
  go_enter Try.func95, Try.ntmps95
  go_wp2
  go_loopw [5] (fun i wr => ∃ (k : Nat), k ≤ s.length ∧ i = .int .i64 k ∧ NotYet s v k ∧ wr = w) (fun i _ => s.length - (intOf i).toNat)
  case atStart => exact ⟨0, Nat.zero_le _, rfl, fun j _ h => absurd h (Nat.not_lt_zero _), rfl⟩
  case round =>
    obtain ⟨k, hk, rfl, hN, rfl⟩ := hrel
    by_cases hlt : k < s.length
    · obtain ⟨c0, c1, hO⟩ := hA k hlt (by omega)
      have HS := hide (hN.step hlt)
      have HH := hide (hN.hit hlt)
      clear hN
      obtain ⟨y, hy⟩ : ∃ y, y = s[k] := ⟨_, rfl⟩
      rw [← hy] at c0 hO HS HH
      clear hy
      obtain ⟨ua, uc, eu, _⟩ := hO.shape
      rw [eu] at c1 hO
      have HO := hide hO
      clear hO eu
      by_cases hv : y.v = v
      · have hb : (y.v == v) = true := by simpa using hv
        have HV := hide hv
        clear hv
        go_wp2
        go_ret
        exact getOut_hit (unhide HH (unhide HV)) rfl (unhide HO)
      · have hb : (y.v == v) = false := by simpa using hv
        go_wp2
        go_roundw
        case rel => exact ⟨k + 1, by omega, by go_num, unhide HS hv, by first | rfl | trivial⟩
        case measure => simp [intOf]; omega
    · have e : k = s.length := by omega
      subst e
      have HE := hide hN.all
      go_wp2
      go_ret
      exact ⟨_, 0, by rw [unhide HE]; rfl, fun h => absurd (unhide HE) h, cell_below _ _⟩

/-- The specification's l2Get, over bindings that are owned. -/
theorem l2Get_own (ao : Option Addr) (cap lo hi : Nat) (s : List B) (v : Int) (w : World) (hm : s.length ≤ 1048576) (hO : OwnB w lo hi (.slice ao s.length cap) s) :
    Calls Try.prog 95 #[.slice ao s.length cap, .int .i64 v] w (GetOutS s v w) := by
  by_cases h0 : s.length = 0
  · have hs : s = [] := List.length_eq_zero_iff.1 h0
    subst hs
    refine (l2Get_none ao cap v w).mono ?_
    rintro e w' ⟨a, c, rfl, _, _, _, hb⟩
    exact ⟨a, c, rfl, fun h => absurd rfl h, hb⟩
  · obtain ⟨g, cap', us, e, h1, hA⟩ := hO.atU (by omega)
    simp only [Value.slice.injEq] at e
    obtain ⟨rfl, _, rfl⟩ := e
    exact l2Get_at g 0 cap lo s us v w hm h1 hA

/-- How far l2Walk has come. -/
def WalkAt (s : List B) (x : List C) (w : World) (k : Nat) (xv : Value) (wr : World) : Prop := ∃ t, Now s k t x ∧ TdT wr xv t ∧ Below w.heap.size w wr

set_option maxRecDepth 100000 in
set_option maxHeartbeats 1000000 in
/-- The specification's l2Walk. -/
theorem l2Walk_any (ao : Option Addr) (cap lo hi : Nat) (s : List B) (tv : Value) (t x : List C) (n : Nat) (w : World) (hm : s.length ≤ 1048576) (hhi : hi ≤ w.heap.size) (hO : OwnB w lo hi (.slice ao s.length cap) s) (hT : TdT w tv t) (hN : Now s n t x) :
    Calls Try.prog 81 #[.slice ao s.length cap, tv] w fun e w' => ∃ u, e = .returned u ∧ TdT w' u x ∧ Below w.heap.size w w' := by
  have HN := hide hN
  have HT := hide hT
  clear hN
  obtain ⟨b0, o0, c0, cur0, rfl, _⟩ := hT
  go_enter Try.func81, Try.ntmps81
  go_wp2
  go_loopg [5] n (fun k xv wr => WalkAt s x w k xv wr)
  case atStart => exact ⟨t, unhide HN, unhide HT, Below.refl _ _⟩
  case round =>
    clear HN HT
    obtain ⟨t', hN, hT, hB⟩ := hrel
    have HT := hide hT
    obtain ⟨b, off, cp, cur, rfl, hA, h1, h2, hh⟩ := hT
    cases hN with
    | @stop c r hc =>
      obtain ⟨q0, q1, q2⟩ := hA 0 (by simp)
      simp only [List.getElem_cons_zero, Nat.zero_mul, Nat.add_zero] at q0 q1 q2
      by_cases hk : c.k = 1
      · have hkb : (c.k == 1) = true := by simpa using hk
        have hg := hc hk
        have HG := hide (l2Get_own ao cap lo hi s c.n _ hm (hO.below hhi hB))
        unfold GetOutS at HG
        rw [hg] at HG
        clear hc hk hA hh
        simp only [List.length_cons] at h1 ⊢
        go_wp2_with (go_at_call 95; refine (unhide HG).mono ?_; rintro e w2 ⟨ga, gc, rfl, _, hb2⟩; simp only [List.length_nil])
        go_ret
        exact ⟨_, rfl, (unhide HT).below hb2, bstep hB hb2⟩
      · have hkb : (c.k == 1) = false := by simpa using hk
        clear hc hk hA hh
        simp only [List.length_cons] at h1 ⊢
        go_wp2
        go_ret
        exact ⟨_, rfl, unhide HT, hB⟩
    | @on n' c r _ hk hg hN' =>
      obtain ⟨q0, q1, q2⟩ := hA 0 (by simp)
      simp only [List.getElem_cons_zero, Nat.zero_mul, Nat.add_zero] at q0 q1 q2
      have hkb : (c.k == 1) = true := by simpa using hk
      have HG := hide (l2Get_own ao cap lo hi s c.n _ hm (hO.below hhi hB))
      have HN' := hide hN'
      have HNE := hide hg
      have hpos : (getB s c.n).length ≠ 0 := fun e => hg (List.length_eq_zero_iff.1 e)
      clear hk hA hh hN' hg
      simp only [List.length_cons] at h1 ⊢
      go_wp2_with (go_at_call 95; refine (unhide HG).mono ?_; rintro e w2 ⟨ga, gc, rfl, hT2, hb2⟩; have HT2 := hide (hT2 (unhide HNE)); clear hT2)
      go_roundg n'
      case rel => exact ⟨_, unhide HN', unhide HT2, bstep hB hb2⟩
      case measure => omega
end Go.Proofs.Ytjinbinnjpjniaa
