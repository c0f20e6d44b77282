import Derived.Test.YthgfhimhgeohcaaQMH3MH4
import Derived.Deep.RegionWith
/- Marks in places that an answer owns; in programs. -/
namespace Go.Proofs.Ythgfhimhgeohcaa
open Go.RowKit Go.Shelf
set_option linter.unusedVariables false
set_option linter.unusedSimpArgs false

/-- What markPrgPlaceS writes. -/
def marksP (n k : Nat) : List Pc := (List.range n).map fun i => ⟨mtext (k + 3 * i), ((k + 3 * i + 1 : Nat) : Int), ((k + 3 * i + 2 : Nat) : Int)⟩
theorem marksP_length (n k : Nat) : (marksP n k).length = n := by simp [marksP]
theorem marksP_get {n k i : Nat} (h : i < (marksP n k).length) : (marksP n k)[i] = ⟨mtext (k + 3 * i), ((k + 3 * i + 1 : Nat) : Int), ((k + 3 * i + 2 : Nat) : Int)⟩ := by simp [marksP]
theorem marksP_succ (n k : Nat) : marksP (n + 1) k = marksP n k ++ [⟨mtext (k + 3 * n), ((k + 3 * n + 1 : Nat) : Int), ((k + 3 * n + 2 : Nat) : Int)⟩] := by simp [marksP, List.range_succ]

/-- What a round of markPrgPlaceS leaves. -/
theorem markP_round {w wr w3 : World} {g n cap j k base : Nat} {xs : List Value} (hj : j < n)
    (hown : wr.ownsRow base 137 3 (.slice (some ⟨g, 0, none⟩) n cap) n xs) (hx : xs.take (j * 3) = flatPc (marksP j k)) (hG : w.grownBy wr (some g)) (hb3 : Below wr.heap.size wr w3)
    (u0 u1 : Int) (e0 : u0 = ((k + 3 * j + 1 : Nat) : Int)) (e1 : u1 = ((k + 3 * j + 2 : Nat) : Int)) :
    ∃ xs', (((w3.setCell ⟨g, j * 3, none⟩ (.string (mtext (k + 3 * j)))).setCell ⟨g, j * 3 + 1, none⟩ (.int .i64 u0)).setCell ⟨g, j * 3 + 2, none⟩ (.int .i64 u1)).ownsRow base 137 3 (.slice (some ⟨g, 0, none⟩) n cap) n xs' ∧
      xs'.take ((j + 1) * 3) = flatPc (marksP (j + 1) k) ∧ w.grownBy (((w3.setCell ⟨g, j * 3, none⟩ (.string (mtext (k + 3 * j)))).setCell ⟨g, j * 3 + 1, none⟩ (.int .i64 u0)).setCell ⟨g, j * 3 + 2, none⟩ (.int .i64 u1)) (some g) := by
  subst e0 e1
  have o3 := own_kept hown hb3
  have s1 := o3.stored (j * 3) (.string (mtext (k + 3 * j)))
  have s2 := s1.1.stored (j * 3 + 1) (.int .i64 ((k + 3 * j + 1 : Nat) : Int))
  have s4 := s2.1.stored (j * 3 + 2) (.int .i64 ((k + 3 * j + 2 : Nat) : Int))
  have hl : xs.length = n * 3 := hown.1
  refine ⟨_, s4.1, ?_, ?_⟩
  · rw [set3_take xs j _ _ _ (by omega), hx, marksP_succ, flatPc_append]
    rfl
  · exact grown_trans (grown_trans (grown_trans (grown_trans hG (grown_below hb3)) s1.2) s2.2) s4.2

set_option maxRecDepth 100000 in
set_option maxHeartbeats 2000000 in
theorem markPs_some (g cap n : Nat) (xs0 : List Value) (k base : Nat) (w : World) (hm : n ≤ 1048576) (hk1 : 1 ≤ k) (hk : k + 3 * n ≤ 16777000) (hA : w.ownsRow base 137 3 (.slice (some ⟨g, 0, none⟩) n cap) n xs0) :
    Calls Try.prog 47 #[.slice (some ⟨g, 0, none⟩) n cap, .int .i64 k] w fun e w' => e = .returned (.int .i64 ((k + 3 * n : Nat) : Int)) ∧
      w'.ownsRow base 137 3 (.slice (some ⟨g, 0, none⟩) n cap) n (flatPc (marksP n k)) ∧ w.grownBy w' (some g) := by
  go_enter Try.func47, Try.ntmps47
  go_wp2
  go_loopw [1, 5] (fun m i wr => ∃ (j : Nat) (xs : List Value), j ≤ n ∧ i = .int .i64 j ∧ m = .int .i64 ((k + 3 * j : Nat) : Int) ∧ wr.ownsRow base 137 3 (.slice (some ⟨g, 0, none⟩) n cap) n xs ∧ xs.take (j * 3) = flatPc (marksP j k) ∧ w.grownBy wr (some g)) (fun _ i _ => n - (intOf i).toNat)
  case atStart => exact ⟨0, _, Nat.zero_le _, rfl, by simp, hA, by simp [flatPc, marksP], grown_refl _ _⟩
  case round =>
    obtain ⟨j, xs, hj, rfl, rfl, hown, hx, hG⟩ := hrel
    have HX := hide hx
    have hl := hown.1
    clear hx
    by_cases hlt : j < n
    · have d0 : wr.cell? ⟨g, j * 3, none⟩ = some (xs[j * 3]'(by omega)) := by rw [hown.cellAt _ (by omega)]; exact List.getElem?_eq_getElem _
      have d1 : wr.cell? ⟨g, j * 3 + 1, none⟩ = some (xs[j * 3 + 1]'(by omega)) := by rw [hown.cellAt _ (by omega)]; exact List.getElem?_eq_getElem _
      have d2 : wr.cell? ⟨g, j * 3 + 2, none⟩ = some (xs[j * 3 + 2]'(by omega)) := by rw [hown.cellAt _ (by omega)]; exact List.getElem?_eq_getElem _
      obtain ⟨z0, hz0⟩ : ∃ u, u = xs[j * 3]'(by omega) := ⟨_, rfl⟩
      obtain ⟨z1, hz1⟩ : ∃ u, u = xs[j * 3 + 1]'(by omega) := ⟨_, rfl⟩
      obtain ⟨z2, hz2⟩ : ∃ u, u = xs[j * 3 + 2]'(by omega) := ⟨_, rfl⟩
      rw [← hz0] at d0
      rw [← hz1] at d1
      rw [← hz2] at d2
      clear hz0 hz1 hz2
      have f0 := hown.frozenAt (j * 3)
      have f1 := hown.frozenAt (j * 3 + 1)
      have f2 := hown.frozenAt (j * 3 + 2)
      have hgl := World.block_lt_of_cell? wr ⟨_, _, none⟩ d0
      have HO := hide hown
      clear hl hown
      go_wp2_with fail
      refine (markText_int _ _ (by omega) (by omega)).mono ?_
      rintro e w3 ⟨rfl, hb3⟩
      rw [show ((k : Int) + 3 * (j : Int)).toNat = k + 3 * j from by omega]
      have R := markP_round hlt (unhide HO) (unhide HX) hG hb3 ((k : Int) + 3 * (j : Int) + 1) ((k : Int) + 3 * (j : Int) + 1 + 1) (by omega) (by omega)
      have HR := hide R
      replace d0 := (hb3.cell (p := ⟨g, j * 3, none⟩) hgl).trans d0
      replace d1 := (hb3.cell (p := ⟨g, j * 3 + 1, none⟩) hgl).trans d1
      replace d2 := (hb3.cell (p := ⟨g, j * 3 + 2, none⟩) hgl).trans d2
      replace f0 := (hb3.frozen (p := ⟨g, j * 3, none⟩) hgl).trans f0
      replace f1 := (hb3.frozen (p := ⟨g, j * 3 + 1, none⟩) hgl).trans f1
      replace f2 := (hb3.frozen (p := ⟨g, j * 3 + 2, none⟩) hgl).trans f2
      clear R
      go_wp2
      go_roundw
      case rel =>
        obtain ⟨xs', r1, r2, r3⟩ := unhide HR
        exact ⟨j + 1, xs', by omega, by go_num, by go_num, r1, r2, r3⟩
      case measure => simp [intOf]; omega
    · go_wp2
      go_ret
      have hjl : j = n := by omega
      refine ⟨ret_int (by omega), ?_, hG⟩
      have := unhide HX
      rw [List.take_of_length_le (by omega), hjl] at this
      rw [← this]
      exact hown

set_option maxRecDepth 100000 in
set_option maxHeartbeats 1000000 in
theorem markPs_none (ao : Option Addr) (cap : Nat) (k : Nat) (w : World) : Calls Try.prog 47 #[.slice ao 0 cap, .int .i64 (k : Int)] w fun e w' => e = .returned (.int .i64 (k : Int)) ∧ w' = w := by
  go_enter Try.func47, Try.ntmps47
  go_wp2
  go_loopw [1, 5] (fun m i wr => wr = w ∧ i = .int .i64 0 ∧ m = .int .i64 (k : Int)) (fun _ _ _ => 0)
  case atStart => exact ⟨rfl, rfl, rfl⟩
  case round =>
    obtain ⟨rfl, rfl, rfl⟩ := hrel
    go_wp2
    go_ret
    exact ⟨rfl, rfl⟩
set_option maxRecDepth 100000 in
set_option maxHeartbeats 1000000 in
theorem heldPs_none (ao : Option Addr) (cap : Nat) (k : Nat) (w : World) : Calls Try.prog 49 #[.slice ao 0 cap, .int .i64 (k : Int)] w fun e w' => e = .returned (.int .i64 (k : Int)) ∧ w' = w := by
  go_enter Try.func49, Try.ntmps49
  go_wp2
  go_loopw [1, 5] (fun m i wr => wr = w ∧ i = .int .i64 0 ∧ m = .int .i64 (k : Int)) (fun _ _ _ => 0)
  case atStart => exact ⟨rfl, rfl, rfl⟩
  case round =>
    obtain ⟨rfl, rfl, rfl⟩ := hrel
    go_wp2
    go_ret
    exact ⟨rfl, rfl⟩

set_option maxRecDepth 100000 in
set_option maxHeartbeats 2000000 in
theorem heldPs_some (b cap n k : Nat) (w : World) (hm : n ≤ 1048576) (hk1 : 1 ≤ k) (hk : k + 3 * n ≤ 16777000) (hA : AtP w b 0 (marksP n k)) :
    Calls Try.prog 49 #[.slice (some ⟨b, 0, none⟩) n cap, .int .i64 k] w fun e w' => e = .returned (.int .i64 ((k + 3 * n : Nat) : Int)) ∧ Below w.heap.size w w' := by
  go_enter Try.func49, Try.ntmps49
  go_wp2
  go_loopw [1, 5] (fun m i wr => ∃ (j : Nat), j ≤ n ∧ i = .int .i64 j ∧ m = .int .i64 ((k + 3 * j : Nat) : Int) ∧ Below w.heap.size w wr) (fun _ i _ => n - (intOf i).toNat)
  case atStart => exact ⟨0, Nat.zero_le _, rfl, by simp, Below.refl _ _⟩
  case round =>
    obtain ⟨j, hj, rfl, rfl, hB⟩ := hrel
    by_cases hlt : j < n
    · obtain ⟨v0, v1, v2, d0, d1, d2, e0, e1, e2⟩ := (hA.below hB) j (by simpa [marksP] using hlt)
      subst e0 e1 e2
      rw [marksP_get] at d0 d1 d2
      simp only [Nat.zero_add] at d0 d1 d2
      obtain ⟨s, hs⟩ : ∃ s, s = mtext (k + 3 * j) := ⟨_, rfl⟩
      rw [← hs] at d0
      have HS := hide hs
      clear hs
      have hst : (s.toList == s.toList) = true := by simp
      have hbl : b < wr.heap.size := World.block_lt_of_cell? wr ⟨b, _, none⟩ d2
      go_wp2
      go_region_with (go_at_call 61; refine (markText_int _ _ (by omega) (by omega)).mono ?_; rw [show ((k : Int) + 3 * (j : Int)).toNat = k + 3 * j from by omega, ← unhide HS]; rintro e w1 ⟨rfl, hb1⟩; have q0 := (hb1.cell (p := ⟨b, j * 3, none⟩) (by simpa using hbl)).trans (by simpa using d0); have q1 := (hb1.cell (p := ⟨b, j * 3 + 1, none⟩) (by simpa using hbl)).trans (by simpa using d1); have q2 := (hb1.cell (p := ⟨b, j * 3 + 2, none⟩) (by simpa using hbl)).trans (by simpa using d2))
      all_goals go_wp2
      all_goals go_roundw
      all_goals first | exact ⟨j + 1, by omega, by go_num, by go_num, bstep hB.drew (by assumption)⟩ | (simp [intOf]; omega)
    · go_wp2
      go_ret
      exact ⟨ret_int (by omega), hB⟩

/-- Places that an answer owns, marked and looked up. -/
theorem markPs_any (v : Value) (lo hi : Nat) (s : List Pc) (k : Nat) (w : World) (hS : SegP lo hi w v s) (hk1 : 1 ≤ k) (hk : k + 3 * s.length ≤ 16777000) (hn : s.length ≤ 1048576) :
    Calls Try.prog 47 #[v, .int .i64 (k : Int)] w (MarkOut 49 lo hi w v k (3 * s.length)) := by
  obtain ⟨hx, hv⟩ := hS
  rcases hx.2 with ⟨rfl, h0⟩ | ⟨g, cap, cur, rfl, _⟩
  · have : s = [] := List.length_eq_zero_iff.1 h0
    subst this
    refine (markPs_none none 0 k w).mono ?_
    rintro e w' ⟨rfl, rfl⟩
    refine ⟨by simp, Btw.refl _ _ _, fun W hW hh => ?_⟩
    refine (heldPs_none none 0 k W).mono ?_
    rintro e w' ⟨rfl, rfl⟩
    exact ⟨by simp, Below.refl _ _⟩
  · refine (markPs_some g cap s.length _ k lo w (by omega) hk1 hk hx).mono ?_
    rintro e w' ⟨rfl, hO, hG⟩
    refine ⟨rfl, Btw.of_grown hG (fun b e => by cases e; exact ⟨(hx.lt g rfl).1, hv g rfl⟩), fun W hW hh' => ?_⟩
    have hO2 := own_block hO (w' := W) (fun b e => hW b (hO.lt b e).1 (by rw [← own_one e]; exact hv g rfl))
    by_cases h0 : s.length = 0
    · rw [h0]
      refine (heldPs_none _ cap k W).mono ?_
      rintro e w' ⟨rfl, rfl⟩
      exact ⟨by simp, Below.refl _ _⟩
    · have hlen := marksP_length s.length k
      have hR : RowP W (some ⟨g, 0, none⟩) (marksP s.length k) := rowP_own (cap := cap) (base := lo) (by rw [hlen]; exact hO2)
      rcases hR with h | ⟨b, off, e, hA⟩
      · rw [h] at hlen; simp at hlen; omega
      · injection e with e
        injection e with e1 e2
        subst e1 e2
        exact heldPs_some g cap s.length k W (by omega) hk1 hk hA
end Go.Proofs.Ythgfhimhgeohcaa

/- Marks in a program that lies in two regions. -/
namespace Go.Proofs.Ythgfhimhgeohcaa
open Go.RowKit Go.Shelf
set_option linter.unusedVariables false
set_option linter.unusedSimpArgs false

theorem SegP.shape {lo hi : Nat} {w : World} {v : Value} {s : List Pc} (h : SegP lo hi w v s) : ∃ ao cap, v = .slice ao s.length cap := by
  obtain ⟨ao, cap, e, _⟩ := h.slP
  exact ⟨ao, cap, e⟩
theorem Mrkd.wide {fh lo hi lo' hi' : Nat} {w : World} {v : Value} {k n : Nat} (h : Mrkd fh lo hi w v k n) (hl : lo' ≤ lo) (hh : hi ≤ hi') : Mrkd fh lo' hi' w v k n := fun W hW hs => h W (hW.sub hl hh) (Nat.le_trans hh hs)

set_option maxRecDepth 100000 in
set_option maxHeartbeats 2000000 in
theorem heldPg_any (p1 p2 : Option Addr) (n1 q1 n2 q2 a b c d k e2 e3 m1 m2 : Nat) (w : World) (M1 : Mrkd 48 a b w (.slice p1 n1 q1) k m1) (M2 : Mrkd 49 c d w (.slice p2 n2 q2) e2 m2) (hb : b ≤ w.heap.size) (hd : d ≤ w.heap.size) (he2 : e2 = k + m1) (he3 : e3 = e2 + m2) (hk : e3 ≤ 16777000) :
    Calls Try.prog 14 #[.agg #[.slice p1 n1 q1, .slice p2 n2 q2], .int .i64 (k : Int)] w fun e w' => e = .returned (.int .i64 (e3 : Int)) ∧ Below w.heap.size w w' := by
  have H1 : Hid (∀ W, Below w.heap.size w W → Calls Try.prog 48 #[.slice p1 n1 q1, .int .i64 (k : Int)] W fun e' w' => e' = .returned (.int .i64 (e2 : Int)) ∧ Below W.heap.size W w') := fun W hW => by
    have h := M1 W (Agree.below hW hb) (Nat.le_trans hb hW.size)
    rw [← he2] at h
    exact h
  have H2 : Hid (∀ W, Below w.heap.size w W → Calls Try.prog 49 #[.slice p2 n2 q2, .int .i64 (e2 : Int)] W fun e' w' => e' = .returned (.int .i64 (e3 : Int)) ∧ Below W.heap.size W w') := fun W hW => by
    have h := M2 W (Agree.below hW hd) (Nat.le_trans hd hW.size)
    rw [← he3] at h
    exact h
  have z2 : ¬ ((e2 : Int) < 0) := by omega
  have z3 : ¬ ((e3 : Int) < 0) := by omega
  have hk2 : e2 ≤ 16777000 := by omega
  clear M1 M2 he2 he3 hb hd
  go_enter Try.func14, Try.ntmps14
  go_wp2_with fail
  obtain ⟨W, hW⟩ : ∃ W, W = w.alloc (Obj.cells #[.slice p1 n1 q1, .slice p2 n2 q2] 30) := ⟨_, rfl⟩
  have hB0 : Below w.heap.size w W := by rw [hW]; exact (Below.refl _ _).alloc (Nat.le_refl _) _
  have hsz : w.heap.size < W.heap.size := by rw [hW]; simp
  have A1 : W.cell? ⟨w.heap.size, 1, none⟩ = some (.slice p2 n2 q2) := by rw [hW]; simp [go_sem]
  rw [← hW]
  clear hW
  refine (unhide H1 W hB0).mono ?_
  rintro e' w2 ⟨rfl, hb2⟩
  have d2 := (hb2.cell (p := ⟨w.heap.size, 1, none⟩) hsz).trans A1
  have hB2 := bstep hB0 hb2
  go_wp2_with fail
  refine (unhide H2 w2 hB2).mono ?_
  rintro e' w3 ⟨rfl, hb3⟩
  have FIN := hide (bstep hB2 hb3)
  clear H1 H2 A1 d2 hB0 hB2 hb2 hb3
  go_wp2
  go_ret
  exact ⟨rfl, unhide FIN⟩

set_option maxRecDepth 100000 in
set_option maxHeartbeats 2000000 in
theorem markPg_any (x : Pg) (v0 v1 : Value) (lo hi a b c d k : Nat) (w : World) (h0 : SegKS a b w v0 x.cs) (h1 : SegP c d w v1 x.ps) (ha : lo ≤ a) (hab : a ≤ b) (hb : b ≤ hi) (hc : lo ≤ c) (hcd : c ≤ d) (hd : d ≤ hi) (hap : b ≤ c ∨ d ≤ a) (hh : hi ≤ w.heap.size) (hk1 : 1 ≤ k) (hk : k + (nKs x.cs + 3 * x.ps.length) ≤ 16777000) (hn : x.cs.length ≤ 1048576) (hgn : ∀ c ∈ x.cs, c.g.length ≤ 1048576) (hn2 : x.ps.length ≤ 1048576) :
    Calls Try.prog 13 #[.agg #[v0, v1], .int .i64 (k : Int)] w (MarkOut 14 lo hi w (.agg #[v0, v1]) k (nKs x.cs + 3 * x.ps.length)) := by
  obtain ⟨p1, q1, rfl, _⟩ := h0.shape
  obtain ⟨p2, q2, rfl⟩ := h1.shape
  obtain ⟨e2, he2⟩ : ∃ e2, e2 = k + nKs x.cs := ⟨_, rfl⟩
  obtain ⟨e3, he3⟩ : ∃ e3, e3 = e2 + 3 * x.ps.length := ⟨_, rfl⟩
  have H1 : Hid (∀ W, Below w.heap.size w W → Calls Try.prog 46 #[.slice p1 x.cs.length q1, .int .i64 (k : Int)] W fun e' w' => e' = .returned (.int .i64 (e2 : Int)) ∧ Btw a b W w' ∧ Mrkd 48 a b w' (.slice p1 x.cs.length q1) k (nKs x.cs)) := fun W hW => by
    have h := markKs_any (.slice p1 x.cs.length q1) a b x.cs k W (h0.kept (ekl_keeps _) (Agree.below hW (by omega))) (by have := hW.size; omega) hk1 (by omega) hn hgn
    unfold MarkOut at h
    rw [← he2] at h
    exact h
  have H2 : Hid (∀ W, Agree c d w W → Calls Try.prog 47 #[.slice p2 x.ps.length q2, .int .i64 (e2 : Int)] W fun e' w' => e' = .returned (.int .i64 (e3 : Int)) ∧ Btw c d W w' ∧ Mrkd 49 c d w' (.slice p2 x.ps.length q2) e2 (3 * x.ps.length)) := fun W hW => by
    have h := markPs_any (.slice p2 x.ps.length q2) c d x.ps e2 W (h1.kept hW) (by omega) (by omega) hn2
    unfold MarkOut at h
    rw [← he3] at h
    exact h
  have hk3 : e3 ≤ 16777000 := by omega
  have hk2 : e2 ≤ 16777000 := by omega
  have HEnd := hide (show k + (nKs x.cs + 3 * x.ps.length) = e3 by omega)
  have HE2 := hide he2
  have HE3 := hide he3
  clear h0 h1 he2 he3 hk hgn
  go_enter Try.func13, Try.ntmps13
  go_wp2_with fail
  obtain ⟨W, hW⟩ : ∃ W, W = w.alloc (Obj.cells #[.slice p1 x.cs.length q1, .slice p2 x.ps.length q2] 30) := ⟨_, rfl⟩
  have hB0 : Below w.heap.size w W := by rw [hW]; exact (Below.refl _ _).alloc (Nat.le_refl _) _
  have hsz : w.heap.size < W.heap.size := by rw [hW]; simp
  have A1 : W.cell? ⟨w.heap.size, 1, none⟩ = some (.slice p2 x.ps.length q2) := by rw [hW]; simp [go_sem]
  rw [← hW]
  clear hW
  refine (unhide H1 W hB0).mono ?_
  rintro e' w2 ⟨rfl, hb2, hm2⟩
  have d2 := hb2.cell (by omega) A1
  have hag : Agree c d w w2 := (Agree.below hB0 (by omega)).trans (hb2.agree (by omega) (by omega))
  have hs2 := hb2.size
  go_wp2_with fail
  refine (unhide H2 w2 hag).mono ?_
  rintro e' w3 ⟨rfl, hb3, hm3⟩
  have hs3 := hb3.size
  have FIN : Hid (MarkOut 14 lo hi w (.agg #[.slice p1 x.cs.length q1, .slice p2 x.ps.length q2]) k (nKs x.cs + 3 * x.ps.length) (.returned (.int .i64 (e3 : Int))) w3) := by
    refine ⟨by rw [unhide HEnd], ((Btw.of_below hB0).trans (hb2.wide ha hb)).trans (hb3.wide hc hd), fun V hV hhV => ?_⟩
    have hm2' := hm2.kept (hb3.agree (by omega) (by omega))
    rw [unhide HEnd]
    exact heldPg_any p1 p2 _ q1 _ q2 a b c d k e2 e3 _ _ V (hm2'.kept (hV.sub ha hb)) (hm3.kept (hV.sub hc hd)) (by omega) (by omega) (unhide HE2) (unhide HE3) hk3
  clear H1 H2 A1 d2 hB0 hb2 hb3 hm2 hm3 hag
  go_wp2
  go_ret
  exact unhide FIN
end Go.Proofs.Ythgfhimhgeohcaa
