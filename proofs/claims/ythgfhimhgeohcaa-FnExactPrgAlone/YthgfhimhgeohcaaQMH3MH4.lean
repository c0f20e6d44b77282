import Derived.Test.YthgfhimhgeohcaaQMH1MH2
/- Marks in goals looked up. -/
namespace Go.Proofs.Ythgfhimhgeohcaa
open Go.RowKit Go.Shelf
set_option linter.unusedVariables false
set_option linter.unusedSimpArgs false

set_option maxRecDepth 100000 in
set_option maxHeartbeats 4000000 in
theorem heldGs_some (g cap lo hi : Nat) (s : List Gl) (k : Nat) (w : World) (hS : SegL lo hi w 89 4 (.slice (some ⟨g, 0, none⟩) s.length cap) s.length (EGm s k)) (hh : hi ≤ w.heap.size) (hk1 : 1 ≤ k) (hk : k + nGs s ≤ 16777000) (hn : s.length ≤ 1048576) :
    Calls Try.prog 100 #[.slice (some ⟨g, 0, none⟩) s.length cap, .int .i64 (k : Int)] w fun e w' => e = .returned (.int .i64 ((k + nGs s : Nat) : Int)) ∧ Below w.heap.size w w' := by
  have HS := hide hS
  clear hS
  go_enter Try.func100, Try.ntmps100
  go_wp2
  go_loopw [1, 5] (fun m i wr => ∃ (j e : Nat), j ≤ s.length ∧ i = .int .i64 j ∧ m = .int .i64 (e : Int) ∧ e = k + nGs (s.take j) ∧ Below w.heap.size w wr) (fun _ i _ => s.length - (intOf i).toNat)
  case atStart => exact ⟨0, k, Nat.zero_le _, rfl, rfl, by simp [nGs], Below.refl _ _⟩
  case round =>
    obtain ⟨j, e, hj, rfl, rfl, he, hB⟩ := hrel
    have hel : e ≤ 16777000 := by have := nGs_take s j; omega
    have he1 : 1 ≤ e := by omega
    by_cases hlt : j < s.length
    · have hsu := nGs_succ hlt
      have hst := nGs_take s (j + 1)
      obtain ⟨l, r, us, b1, b2, b3, b4, hE, hul, hcell, _, _, _⟩ := (unhide HS).round (egm_keeps s k) hh hlt (by omega)
      obtain ⟨_, v1, v2, v3, m1, m2, rfl, a1, a2, a3, ⟨p1, q1, x1⟩, ⟨p2, q2, x2⟩, ⟨p3, q3, x3⟩, M1, M2, M3⟩ := hE
      subst x1 x2 x3
      have hA := Agree.below (lo := l) (hi := r) hB (by omega)
      have hgl : g < w.heap.size := World.block_lt_of_cell? w ⟨_, _, none⟩ (hcell 1 _ rfl)
      have c0 := (hB.cell (p := ⟨g, j * 4, none⟩) hgl).trans (hcell 0 _ rfl)
      have c1 := (hB.cell (p := ⟨g, j * 4 + 1, none⟩) hgl).trans (hcell 1 _ rfl)
      have c2 := (hB.cell (p := ⟨g, j * 4 + 2, none⟩) hgl).trans (hcell 2 _ rfl)
      have c3 := (hB.cell (p := ⟨g, j * 4 + 3, none⟩) hgl).trans (hcell 3 _ rfl)
      rw [← he] at c0 M1 M2 M3
      obtain ⟨y, hy⟩ : ∃ y, y = s[j] := ⟨_, rfl⟩
      rw [← hy] at M1 M2 M3 c1 c2 c3 hsu
      obtain ⟨e2, he2⟩ : ∃ e2, e2 = e + 1 + 3 * y.a.length := ⟨_, rfl⟩
      obtain ⟨e3, he3⟩ : ∃ e3, e3 = e2 + 3 * y.b.length := ⟨_, rfl⟩
      obtain ⟨e4, he4⟩ : ∃ e4, e4 = e3 + 3 * y.c.length := ⟨_, rfl⟩
      rw [← he2] at M2 M3
      rw [← he3] at M3
      have hwr := Nat.le_trans hh hB.size
      have N1 := M1.kept (hA.sub (Nat.le_refl _) (by omega))
      have N2 := M2.kept (hA.sub a1 a3)
      have N3 := M3.kept (hA.sub (by omega) (Nat.le_refl _))
      have H1 : Hid (∀ W, Below wr.heap.size wr W → Calls Try.prog 35 #[.slice p1 y.a.length q1, .int .i64 ((e : Int) + 1)] W fun e' w' => e' = .returned (.int .i64 (e2 : Int)) ∧ Below W.heap.size W w') := fun W hW => by
        have h := N1 W (Agree.below hW (by omega)) (by have := hW.size; omega)
        rw [show ((e + 1 : Nat) : Int) = (e : Int) + 1 by omega, ← he2] at h
        exact h
      have H2 : Hid (∀ W, Below wr.heap.size wr W → Calls Try.prog 35 #[.slice p2 y.b.length q2, .int .i64 (e2 : Int)] W fun e' w' => e' = .returned (.int .i64 (e3 : Int)) ∧ Below W.heap.size W w') := fun W hW => by
        have h := N2 W (Agree.below hW (by omega)) (by have := hW.size; omega)
        rw [← he3] at h
        exact h
      have H3 : Hid (∀ W, Below wr.heap.size wr W → Calls Try.prog 35 #[.slice p3 y.c.length q3, .int .i64 (e3 : Int)] W fun e' w' => e' = .returned (.int .i64 (e4 : Int)) ∧ Below W.heap.size W w') := fun W hW => by
        have h := N3 W (Agree.below hW (by omega)) (by have := hW.size; omega)
        rw [← he4] at h
        exact h
      have hej : k + nGs (s.take (j + 1)) = e4 := by rw [hsu]; omega
      have HEK := hide hej
      have hne : ((e : Int) != (e : Int)) = false := by simp
      have z2 : ¬ ((e2 : Int) < 0) := by omega
      have z3 : ¬ ((e3 : Int) < 0) := by omega
      have z4 : ¬ ((e4 : Int) < 0) := by omega
      have hb4 : e4 ≤ 16777000 := by omega
      have hgr := Nat.lt_of_lt_of_le hgl hB.size
      have HBW := hide hB
      clear hcell M1 M2 M3 N1 N2 N3 hA hy hsu hst hej he he2 he3 he4 hB
      go_wp2_with fail
      refine (unhide H1 _ (Below.refl _ _)).mono ?_
      rintro e' w2 ⟨rfl, hb2⟩
      have d2 := (hb2.cell (p := ⟨g, j * 4 + 2, none⟩) hgr).trans c2
      have d3 := (hb2.cell (p := ⟨g, j * 4 + 3, none⟩) hgr).trans c3
      go_wp2_with fail
      refine (unhide H2 w2 hb2).mono ?_
      rintro e' w3 ⟨rfl, hb3⟩
      have hb23 := bstep hb2 hb3
      have d3' := (hb23.cell (p := ⟨g, j * 4 + 3, none⟩) hgr).trans c3
      go_wp2_with fail
      refine (unhide H3 w3 hb23).mono ?_
      rintro e' w4 ⟨rfl, hb4'⟩
      have FIN := hide (bstep (unhide HBW) (bstep hb23 hb4'))
      clear H1 H2 H3 c0 c1 c2 c3 d2 d3 d3'
      go_wp2
      go_roundw
      case rel => exact ⟨j + 1, e4, by omega, by go_num, rfl, (unhide HEK).symm, unhide FIN⟩
      case measure => simp [intOf]; omega
    · have e0 : j = s.length := by omega
      subst e0
      rw [List.take_length] at he
      have HE := hide he
      clear he
      go_wp2
      go_ret
      exact ⟨by rw [← unhide HE]; rfl, hB⟩

set_option maxRecDepth 100000 in
set_option maxHeartbeats 1000000 in
theorem markGs_none (ao : Option Addr) (cap : Nat) (k : Nat) (w : World) : Calls Try.prog 99 #[.slice ao 0 cap, .int .i64 (k : Int)] w fun e w' => e = .returned (.int .i64 (k : Int)) ∧ w' = w := by
  go_enter Try.func99, Try.ntmps99
  go_wp2
  go_loopw [1, 5] (fun m i wr => wr = w ∧ i = .int .i64 0 ∧ m = .int .i64 (k : Int)) (fun _ _ _ => 0)
  case atStart => exact ⟨rfl, rfl, rfl⟩
  case round =>
    obtain ⟨rfl, rfl, rfl⟩ := hrel
    go_wp2
    go_ret
    exact ⟨rfl, rfl⟩
set_option maxRecDepth 100000 in
set_option maxHeartbeats 1000000 in
theorem heldGs_none (ao : Option Addr) (cap : Nat) (k : Nat) (w : World) : Calls Try.prog 100 #[.slice ao 0 cap, .int .i64 (k : Int)] w fun e w' => e = .returned (.int .i64 (k : Int)) ∧ w' = w := by
  go_enter Try.func100, Try.ntmps100
  go_wp2
  go_loopw [1, 5] (fun m i wr => wr = w ∧ i = .int .i64 0 ∧ m = .int .i64 (k : Int)) (fun _ _ _ => 0)
  case atStart => exact ⟨rfl, rfl, rfl⟩
  case round =>
    obtain ⟨rfl, rfl, rfl⟩ := hrel
    go_wp2
    go_ret
    exact ⟨rfl, rfl⟩

/-- Goals that an answer owns, marked and looked up. -/
theorem markGs_any (v : Value) (lo hi : Nat) (s : List Gl) (k : Nat) (w : World) (hS : SegGS lo hi w v s) (hh : hi ≤ w.heap.size) (hk1 : 1 ≤ k) (hk : k + nGs s ≤ 16777000) (hn : s.length ≤ 1048576) :
    Calls Try.prog 99 #[v, .int .i64 (k : Int)] w (MarkOut 100 lo hi w v k (nGs s)) := by
  obtain ⟨xs, L, R, hx, hv, he⟩ := hS
  rcases hx.2 with ⟨rfl, h0⟩ | ⟨g, cap, cur, rfl, _⟩
  · have : s = [] := List.length_eq_zero_iff.1 h0
    subst this
    refine (markGs_none none 0 k w).mono ?_
    rintro e w' ⟨rfl, rfl⟩
    refine ⟨by simp [nGs], Btw.refl _ _ _, fun W hW hh => ?_⟩
    refine (heldGs_none none 0 k W).mono ?_
    rintro e w' ⟨rfl, rfl⟩
    exact ⟨by simp [nGs], Below.refl _ _⟩
  · refine (markGs_some g cap lo hi s k w ⟨xs, L, R, hx, hv, he⟩ hh hk1 hk hn).mono ?_
    rintro e w' ⟨rfl, hB, hM⟩
    exact ⟨rfl, hB, fun W hW hh' => heldGs_some g cap lo hi s k W (hM.kept (egm_keeps s k) hW) hh' hk1 hk hn⟩
end Go.Proofs.Ythgfhimhgeohcaa

/- Marks in clauses that an answer owns. -/
namespace Go.Proofs.Ythgfhimhgeohcaa
open Go.RowKit Go.Shelf
set_option linter.unusedVariables false
set_option linter.unusedSimpArgs false

/-- How many marks clauses take. -/
def nKs : List Cl → Nat
  | [] => 0
  | x :: s => (3 * x.h.length + nGs x.g) + nKs s
theorem nKs_append (s r : List Cl) : nKs (s ++ r) = nKs s + nKs r := by
  induction s with
  | nil => simp [nKs]
  | cons x s ih => simp [nKs, ih]; omega
theorem nKs_succ {s : List Cl} {k : Nat} (h : k < s.length) : nKs (s.take (k + 1)) = nKs (s.take k) + (3 * s[k].h.length + nGs s[k].g) := by
  rw [List.take_succ_eq_append_getElem h, nKs_append]; simp [nKs]
theorem nKs_take (s : List Cl) (k : Nat) : nKs (s.take k) ≤ nKs s := by
  have := nKs_append (s.take k) (s.drop k)
  rw [List.take_append_drop] at this
  omega
/-- A clause that is marked. -/
def EKm (s : List Cl) (k : Nat) (i l r : Nat) (w : World) (us : List Value) : Prop := ∃ (h : i < s.length) (u1 u2 : Value) (m : Nat), us = [u1, u2] ∧ l ≤ m ∧ m ≤ r ∧
  (∃ a c, u1 = .slice a s[i].h.length c) ∧ (∃ a c, u2 = .slice a s[i].g.length c) ∧
  Mrkd 35 l m w u1 (k + nKs (s.take i)) (3 * s[i].h.length) ∧ Mrkd 100 m r w u2 (k + nKs (s.take i) + 3 * s[i].h.length) (nGs s[i].g)
theorem ekm_keeps (s : List Cl) (k : Nat) : Keeps (EKm s k) := fun i l r w w' us ⟨h, u1, u2, m, e, a1, a2, s1, s2, h1, h2⟩ hk =>
  ⟨h, u1, u2, m, e, a1, a2, s1, s2, h1.kept (hk.sub (Nat.le_refl _) a2), h2.kept (hk.sub a1 (Nat.le_refl _))⟩
def EKmid (s : List Cl) (k j : Nat) (i l r : Nat) (w : World) (us : List Value) : Prop := (i < j → EKm s k i l r w us) ∧ (j ≤ i → EKl s i l r w us)
theorem ekmid_keeps (s : List Cl) (k j : Nat) : Keeps (EKmid s k j) := fun i l r w w' us h hk => ⟨fun hi => ekm_keeps s k _ _ _ _ _ _ (h.1 hi) hk, fun hi => ekl_keeps s _ _ _ _ _ _ (h.2 hi) hk⟩

set_option maxRecDepth 100000 in
set_option maxHeartbeats 4000000 in
theorem markKs_some (g cap lo hi : Nat) (s : List Cl) (k : Nat) (w : World) (hS : SegKS lo hi w (.slice (some ⟨g, 0, none⟩) s.length cap) s) (hh : hi ≤ w.heap.size) (hk1 : 1 ≤ k) (hk : k + nKs s ≤ 16777000) (hn : s.length ≤ 1048576) (hgn : ∀ c ∈ s, c.g.length ≤ 1048576) :
    Calls Try.prog 46 #[.slice (some ⟨g, 0, none⟩) s.length cap, .int .i64 (k : Int)] w fun e w' => e = .returned (.int .i64 ((k + nKs s : Nat) : Int)) ∧ Btw lo hi w w' ∧ SegL lo hi w' 135 2 (.slice (some ⟨g, 0, none⟩) s.length cap) s.length (EKm s k) := by
  have hS0 := hide (hS.change (E' := EKmid s k 0) (fun i l r w us hi h => ⟨fun h' => absurd h' (Nat.not_lt_zero _), fun _ => h⟩))
  clear hS
  go_enter Try.func46, Try.ntmps46
  go_wp2
  go_loopw [1, 5] (fun m i wr => ∃ (j e : Nat), j ≤ s.length ∧ i = .int .i64 j ∧ m = .int .i64 (e : Int) ∧ e = k + nKs (s.take j) ∧ SegL lo hi wr 135 2 (.slice (some ⟨g, 0, none⟩) s.length cap) s.length (EKmid s k j) ∧ Btw lo hi w wr) (fun _ i _ => s.length - (intOf i).toNat)
  case atStart => exact ⟨0, k, Nat.zero_le _, rfl, rfl, by simp [nKs], unhide hS0, Btw.refl _ _ _⟩
  case round =>
    obtain ⟨j, e, hj, rfl, rfl, he, hS, hB⟩ := hrel
    have hel : e ≤ 16777000 := by have := nKs_take s j; omega
    have he1 : 1 ≤ e := by omega
    clear hS0
    by_cases hlt : j < s.length
    · have hsu := nKs_succ hlt
      have hst := nKs_take s (j + 1)
      obtain ⟨l, r, us, b1, b2, b3, b4, hE, hul, hcell, hfr, _, hrnd⟩ := hS.round (ekmid_keeps s k j) (Nat.le_trans hh hB.size) hlt (by omega)
      obtain ⟨_, v1, v2, rfl, hG⟩ := hE.2 (Nat.le_refl _)
      obtain ⟨m, a1, a2, S1, S2⟩ := hG
      obtain ⟨p1, q1, x1, _⟩ := S1.1.shape
      obtain ⟨p2, q2, x2, _⟩ := S2.shape
      subst x1 x2
      have c1 := hcell 0 _ rfl
      have c2 := hcell 1 _ rfl
      have hgy := hgn _ (List.getElem_mem hlt)
      obtain ⟨y, hy⟩ : ∃ y, y = s[j] := ⟨_, rfl⟩
      rw [← hy] at S1 S2 c1 c2 hsu hgy
      have hwr := Nat.le_trans hh hB.size
      have c1' : wr.cell? ⟨g, j * 2, none⟩ = some (.slice p1 y.h.length q1) := c1
      obtain ⟨e2, he2⟩ : ∃ e2, e2 = e + 3 * y.h.length := ⟨_, rfl⟩
      have H1 := hide (markC_any l m _ y.h e wr S1 (by omega) (by omega) (by omega))
      have H2 := hide (fun (W : World) (hW : Btw l m wr W) => markGs_any (.slice p2 y.g.length q2) m r y.g e2 W (S2.kept (egl_keeps _) (hW.agree (by omega) (.inr (Nat.le_refl _)))) (by have := hW.size; omega) (by omega) (by omega) hgy)
      have HR := hide (fun (W : World) (hW : Btw l r wr W) (hE' : EKmid s k (j + 1) j l r W [.slice p1 y.h.length q1, .slice p2 y.g.length q2]) => (show SegL lo hi W 135 2 (.slice (some ⟨g, 0, none⟩) s.length cap) s.length (EKmid s k (j + 1)) from
        hrnd W (EKmid s k (j + 1)) hW (by rw [hy] at hE'; exact hE') (fun i l r W us hne h => ⟨fun hi => h.1 (by omega), fun hi => h.2 (by omega)⟩)))
      have HBW := hide (show ∀ W, Btw l r wr W → Btw lo hi w W from fun W hW => hB.trans (hW.wide b1 b3))
      have HEJ := hide (show ∀ W, Mrkd 35 l m W (.slice p1 y.h.length q1) e (3 * y.h.length) → Mrkd 100 m r W (.slice p2 y.g.length q2) e2 (nGs y.g) → EKmid s k (j + 1) j l r W [.slice p1 y.h.length q1, .slice p2 y.g.length q2] from fun W h1 h2 => by
        refine ⟨fun _ => ?_, fun h => absurd h (by omega)⟩
        rw [he2] at h2
        rw [he] at h1 h2
        rw [hy] at h1 h2 ⊢
        exact ⟨hlt, _, _, m, rfl, a1, a2, ⟨_, _, rfl⟩, ⟨_, _, rfl⟩, h1, h2⟩)
      have hej : k + nKs (s.take (j + 1)) = e2 + nGs y.g := by rw [hsu]; omega
      have HEK := hide hej
      have HE2 := hide he2
      have hb40 : e2 + nGs y.g ≤ 16777000 := by omega
      clear hS hrnd hcell hfr hE S1 S2 hy hsu hst hej he hB he2 c1
      go_wp2_with fail
      refine (unhide H1).mono ?_
      rintro e' w2 ⟨rfl, hb2, hm2⟩
      rw [← unhide HE2]
      have d2 := hb2.cell (by omega) c2
      have hs2 := hb2.size
      go_wp2_with fail
      refine (unhide H2 w2 hb2).mono ?_
      rintro e' w3 ⟨rfl, hb3, hm3⟩
      have hb23 : Btw l r wr w3 := (hb2.wide (Nat.le_refl _) a2).trans (hb3.wide a1 (Nat.le_refl _))
      have hm2' := hm2.kept (hb3.agree (by omega) (.inl (Nat.le_refl _)))
      have FIN := hide (And.intro (unhide HR w3 hb23 (unhide HEJ w3 hm2' hm3)) (unhide HBW w3 hb23))
      clear H1 H2 HR HEJ HBW hm2 hm3 hm2' hb2 hb3 hb23 c1' c2 d2
      go_wp2
      go_roundw
      case rel => exact ⟨j + 1, e2 + nGs y.g, by omega, by go_num, rfl, (unhide HEK).symm, (unhide FIN).1, (unhide FIN).2⟩
      case measure => simp [intOf]; omega
    · have e0 : j = s.length := by omega
      subst e0
      rw [List.take_length] at he
      have FIN := hide (And.intro hB (hS.change (E' := EKm s k) (fun i l r w us hi h => h.1 hi)))
      have HE := hide he
      clear hS hB he
      go_wp2
      go_ret
      exact ⟨by rw [← unhide HE]; rfl, (unhide FIN).1, (unhide FIN).2⟩

set_option maxRecDepth 100000 in
set_option maxHeartbeats 4000000 in
theorem heldKs_some (g cap lo hi : Nat) (s : List Cl) (k : Nat) (w : World) (hS : SegL lo hi w 135 2 (.slice (some ⟨g, 0, none⟩) s.length cap) s.length (EKm s k)) (hh : hi ≤ w.heap.size) (hk1 : 1 ≤ k) (hk : k + nKs s ≤ 16777000) (hn : s.length ≤ 1048576) :
    Calls Try.prog 48 #[.slice (some ⟨g, 0, none⟩) s.length cap, .int .i64 (k : Int)] w fun e w' => e = .returned (.int .i64 ((k + nKs s : Nat) : Int)) ∧ Below w.heap.size w w' := by
  have HS := hide hS
  clear hS
  go_enter Try.func48, Try.ntmps48
  go_wp2
  go_loopw [1, 5] (fun m i wr => ∃ (j e : Nat), j ≤ s.length ∧ i = .int .i64 j ∧ m = .int .i64 (e : Int) ∧ e = k + nKs (s.take j) ∧ Below w.heap.size w wr) (fun _ i _ => s.length - (intOf i).toNat)
  case atStart => exact ⟨0, k, Nat.zero_le _, rfl, rfl, by simp [nKs], Below.refl _ _⟩
  case round =>
    obtain ⟨j, e, hj, rfl, rfl, he, hB⟩ := hrel
    have hel : e ≤ 16777000 := by have := nKs_take s j; omega
    have he1 : 1 ≤ e := by omega
    by_cases hlt : j < s.length
    · have hsu := nKs_succ hlt
      have hst := nKs_take s (j + 1)
      obtain ⟨l, r, us, b1, b2, b3, b4, hE, hul, hcell, _, _, _⟩ := (unhide HS).round (ekm_keeps s k) hh hlt (by omega)
      obtain ⟨_, v1, v2, m, rfl, a1, a2, ⟨p1, q1, x1⟩, ⟨p2, q2, x2⟩, M1, M2⟩ := hE
      subst x1 x2
      have hA := Agree.below (lo := l) (hi := r) hB (by omega)
      have hgl : g < w.heap.size := World.block_lt_of_cell? w ⟨_, _, none⟩ (hcell 1 _ rfl)
      have c1 := (hB.cell (p := ⟨g, j * 2, none⟩) hgl).trans (hcell 0 _ rfl)
      have c2 := (hB.cell (p := ⟨g, j * 2 + 1, none⟩) hgl).trans (hcell 1 _ rfl)
      rw [← he] at M1 M2
      obtain ⟨y, hy⟩ : ∃ y, y = s[j] := ⟨_, rfl⟩
      rw [← hy] at M1 M2 c1 c2 hsu
      obtain ⟨e2, he2⟩ : ∃ e2, e2 = e + 3 * y.h.length := ⟨_, rfl⟩
      obtain ⟨e3, he3⟩ : ∃ e3, e3 = e2 + nGs y.g := ⟨_, rfl⟩
      rw [← he2] at M2
      have hwr := Nat.le_trans hh hB.size
      have N1 := M1.kept (hA.sub (Nat.le_refl _) a2)
      have N2 := M2.kept (hA.sub a1 (Nat.le_refl _))
      have H1 : Hid (∀ W, Below wr.heap.size wr W → Calls Try.prog 35 #[.slice p1 y.h.length q1, .int .i64 (e : Int)] W fun e' w' => e' = .returned (.int .i64 (e2 : Int)) ∧ Below W.heap.size W w') := fun W hW => by
        have h := N1 W (Agree.below hW (by omega)) (by have := hW.size; omega)
        rw [← he2] at h
        exact h
      have H2 : Hid (∀ W, Below wr.heap.size wr W → Calls Try.prog 100 #[.slice p2 y.g.length q2, .int .i64 (e2 : Int)] W fun e' w' => e' = .returned (.int .i64 (e3 : Int)) ∧ Below W.heap.size W w') := fun W hW => by
        have h := N2 W (Agree.below hW (by omega)) (by have := hW.size; omega)
        rw [← he3] at h
        exact h
      have hej : k + nKs (s.take (j + 1)) = e3 := by rw [hsu]; omega
      have HEK := hide hej
      have z2 : ¬ ((e2 : Int) < 0) := by omega
      have z3 : ¬ ((e3 : Int) < 0) := by omega
      have hb4 : e3 ≤ 16777000 := by omega
      have hgr := Nat.lt_of_lt_of_le hgl hB.size
      have HBW := hide hB
      clear hcell M1 M2 N1 N2 hA hy hsu hst hej he he2 he3 hB
      go_wp2_with fail
      refine (unhide H1 _ (Below.refl _ _)).mono ?_
      rintro e' w2 ⟨rfl, hb2⟩
      have d2 := (hb2.cell (p := ⟨g, j * 2 + 1, none⟩) hgr).trans c2
      go_wp2_with fail
      refine (unhide H2 w2 hb2).mono ?_
      rintro e' w3 ⟨rfl, hb3⟩
      have FIN := hide (bstep (unhide HBW) (bstep hb2 hb3))
      clear H1 H2 c1 c2 d2
      go_wp2
      go_roundw
      case rel => exact ⟨j + 1, e3, by omega, by go_num, rfl, (unhide HEK).symm, unhide FIN⟩
      case measure => simp [intOf]; omega
    · have e0 : j = s.length := by omega
      subst e0
      rw [List.take_length] at he
      have HE := hide he
      clear he
      go_wp2
      go_ret
      exact ⟨by rw [← unhide HE]; rfl, hB⟩

set_option maxRecDepth 100000 in
set_option maxHeartbeats 1000000 in
theorem markKs_none (ao : Option Addr) (cap : Nat) (k : Nat) (w : World) : Calls Try.prog 46 #[.slice ao 0 cap, .int .i64 (k : Int)] w fun e w' => e = .returned (.int .i64 (k : Int)) ∧ w' = w := by
  go_enter Try.func46, Try.ntmps46
  go_wp2
  go_loopw [1, 5] (fun m i wr => wr = w ∧ i = .int .i64 0 ∧ m = .int .i64 (k : Int)) (fun _ _ _ => 0)
  case atStart => exact ⟨rfl, rfl, rfl⟩
  case round =>
    obtain ⟨rfl, rfl, rfl⟩ := hrel
    go_wp2
    go_ret
    exact ⟨rfl, rfl⟩
set_option maxRecDepth 100000 in
set_option maxHeartbeats 1000000 in
theorem heldKs_none (ao : Option Addr) (cap : Nat) (k : Nat) (w : World) : Calls Try.prog 48 #[.slice ao 0 cap, .int .i64 (k : Int)] w fun e w' => e = .returned (.int .i64 (k : Int)) ∧ w' = w := by
  go_enter Try.func48, Try.ntmps48
  go_wp2
  go_loopw [1, 5] (fun m i wr => wr = w ∧ i = .int .i64 0 ∧ m = .int .i64 (k : Int)) (fun _ _ _ => 0)
  case atStart => exact ⟨rfl, rfl, rfl⟩
  case round =>
    obtain ⟨rfl, rfl, rfl⟩ := hrel
    go_wp2
    go_ret
    exact ⟨rfl, rfl⟩

/-- Clauses that an answer owns, marked and looked up. -/
theorem markKs_any (v : Value) (lo hi : Nat) (s : List Cl) (k : Nat) (w : World) (hS : SegKS lo hi w v s) (hh : hi ≤ w.heap.size) (hk1 : 1 ≤ k) (hk : k + nKs s ≤ 16777000) (hn : s.length ≤ 1048576) (hgn : ∀ c ∈ s, c.g.length ≤ 1048576) :
    Calls Try.prog 46 #[v, .int .i64 (k : Int)] w (MarkOut 48 lo hi w v k (nKs s)) := by
  obtain ⟨xs, L, R, hx, hv, he⟩ := hS
  rcases hx.2 with ⟨rfl, h0⟩ | ⟨g, cap, cur, rfl, _⟩
  · have : s = [] := List.length_eq_zero_iff.1 h0
    subst this
    refine (markKs_none none 0 k w).mono ?_
    rintro e w' ⟨rfl, rfl⟩
    refine ⟨by simp [nKs], Btw.refl _ _ _, fun W hW hh => ?_⟩
    refine (heldKs_none none 0 k W).mono ?_
    rintro e w' ⟨rfl, rfl⟩
    exact ⟨by simp [nKs], Below.refl _ _⟩
  · refine (markKs_some g cap lo hi s k w ⟨xs, L, R, hx, hv, he⟩ hh hk1 hk hn hgn).mono ?_
    rintro e w' ⟨rfl, hB, hM⟩
    exact ⟨rfl, hB, fun W hW hh' => heldKs_some g cap lo hi s k W (hM.kept (ekm_keeps s k) hW) hh' hk1 hk hn⟩
end Go.Proofs.Ythgfhimhgeohcaa
