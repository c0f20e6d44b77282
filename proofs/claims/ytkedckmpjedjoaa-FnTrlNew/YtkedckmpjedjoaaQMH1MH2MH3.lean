import Derived.Test.YtkedckmpjedjoaaQQJ10SEG1
import Derived.Test.YtkedckmpjedjoaaQSBL
import Derived.Deep.CutRange
/- Marks in what an answer owns: the laws write through it and look whether the marks stay. -/
namespace Go.Proofs.Ytkedckmpjedjoaa
open Go.RowKit Go.Shelf
set_option linter.unusedVariables false
set_option linter.unusedSimpArgs false

/-- In each world that agrees from lo to hi the marks from k on are there, n of them. -/
def Mrkd (fh lo hi : Nat) (w : World) (v : Value) (k n : Nat) : Prop := ∀ W, Agree lo hi w W → hi ≤ W.heap.size → Calls Try.prog fh #[v, .int .i64 (k : Int)] W fun e W' => e = .returned (.int .i64 ((k + n : Nat) : Int)) ∧ Below W.heap.size W W'
theorem Mrkd.kept {fh lo hi : Nat} {w w' : World} {v : Value} {k n : Nat} (h : Mrkd fh lo hi w v k n) (hk : Agree lo hi w w') : Mrkd fh lo hi w' v k n := fun W hW hh => h W (hk.trans hW) hh
theorem Btw.agree {lo hi lo' hi' : Nat} {w w' : World} (h : Btw lo hi w w') (hh : hi' ≤ w.heap.size) (hd : hi' ≤ lo ∨ hi ≤ lo') : Agree lo' hi' w w' := fun b h1 h2 => h.block b (by omega) (by omega)
theorem Btw.wide {lo hi lo' hi' : Nat} {w w' : World} (h : Btw lo hi w w') (hl : lo' ≤ lo) (hh : hi ≤ hi') : Btw lo' hi' w w' := ⟨h.os, h.tape, h.output, h.size, fun k h1 h2 => h.block k h1 (by omega)⟩

theorem own_one {g n cap b : Nat} (e : (Value.slice (some ⟨g, 0, none⟩) n cap).ownBlock = some b) : g = b := by simpa [Value.ownBlock] using e
/-- What marking comes to. -/
def MarkOut (fh lo hi : Nat) (w : World) (v : Value) (k n : Nat) (e : Ending) (w' : World) : Prop := e = .returned (.int .i64 ((k + n : Nat) : Int)) ∧ Btw lo hi w w' ∧ Mrkd fh lo hi w' v k n

theorem markC_any (lo hi : Nat) (v : Value) (t : List C) (k : Nat) (w : World) (hS : SegC lo hi w v t) (hm : t.length ≤ 8388608) (hk1 : 1 ≤ k) (hk : k + 3 * t.length ≤ 16777000) :
    Calls Try.prog 22 #[v, .int .i64 (k : Int)] w (MarkOut 40 lo hi w v k (3 * t.length)) := by
  obtain ⟨ao, cap, rfl, _⟩ := hS.1.shape
  refine (markTrmCellL_any ao cap t k lo w hm hk1 hk hS.1).mono ?_
  rintro e w' ⟨rfl, hO, hg⟩
  refine ⟨rfl, Btw.of_grown hg (fun b e => ⟨(hS.1.lt b e).1, hS.2 b e⟩), fun W hW hh => ?_⟩
  have hO2 : OwnC W lo (.slice ao t.length cap) (marksC t.length k) := own_block hO (fun b e => hW b (hO.lt b e).1 (hS.2 b e))
  exact heldTrmCellL_any ao cap t.length k W hm hk1 hk hO2.row

/-- One element turned: a cell of the list's own block, and the element's region. -/
theorem SegL.round {lo hi : Nat} {w : World} {T sz : Nat} {g cap n : Nat} {E : Nat → Nat → Nat → World → List Value → Prop} (h : SegL lo hi w T sz (.slice (some ⟨g, 0, none⟩) n cap) n E) (hE : Keeps E) (hhi : hi ≤ w.heap.size) {j : Nat} (hj : j < n) (hsz : 0 < sz) :
    ∃ l r us, lo ≤ l ∧ l ≤ r ∧ r ≤ hi ∧ (g < l ∨ r ≤ g) ∧ E j l r w us ∧ us.length = sz ∧ (∀ q u, us[q]? = some u → w.cell? ⟨g, j * sz + q, none⟩ = some u) ∧ (∀ q, w.frozen? ⟨g, q, none⟩ = false) ∧
      (∀ (q : Nat) (u : Value) (W : World) (E' : Nat → Nat → Nat → World → List Value → Prop), q < sz → Btw l r (w.setCell ⟨g, j * sz + q, none⟩ u) W → E' j l r W (us.set q u) → (∀ i l r W us, i ≠ j → E i l r W us → E' i l r W us) → SegL lo hi W T sz (.slice (some ⟨g, 0, none⟩) n cap) n E') ∧
      (∀ (W : World) (E' : Nat → Nat → Nat → World → List Value → Prop), Btw l r w W → E' j l r W us → (∀ i l r W us, i ≠ j → E i l r W us → E' i l r W us) → SegL lo hi W T sz (.slice (some ⟨g, 0, none⟩) n cap) n E') := by
  obtain ⟨xs, L, R, hx, hv, he⟩ := h
  obtain ⟨a1, a2, a3, a4, a5, a6⟩ := he j hj
  have hxl : xs.length = n * sz := hx.1
  have hjs : j * sz + sz ≤ n * sz := by rw [← Nat.succ_mul]; exact Nat.mul_le_mul_right _ hj
  have hgh : g < hi := hv g rfl
  have hgl : lo ≤ g := (hx.lt g rfl).1
  have hul : ((xs.drop (j * sz)).take sz).length = sz := by rw [List.length_take, List.length_drop]; omega
  -- regions of the others are apart from that of j
  have apart : ∀ i, i < n → i ≠ j → R i ≤ L j ∨ R j ≤ L i := fun i hi hne => by
    obtain ⟨b1, b2, b3, b4, b5, b6⟩ := he i hi
    rcases Nat.lt_or_gt_of_ne hne with h | h
    · left; exact a4 i h
    · right; exact b4 j h
  refine ⟨L j, R j, _, a1, a2, a3, a5 g rfl, a6, hul, fun q u hq => ?_, fun q => hx.frozenAt q, ?_, ?_⟩
  · have hqs : q < sz := by
      have := (List.getElem?_eq_some_iff.1 hq).1
      omega
    rw [hx.cellAt (j * sz + q) (by omega)]
    rw [List.getElem?_take_of_lt hqs, List.getElem?_drop] at hq
    exact hq
  · intro q u W E' hq hB hE' hsame
    have hst := (hx.stored (j * sz + q) u).1
    have hsz1 : (w.setCell ⟨g, j * sz + q, none⟩ u).heap.size = w.heap.size := by simp [World.setCell]
    have hgW : W.heap[g]? = (w.setCell ⟨g, j * sz + q, none⟩ u).heap[g]? := hB.block g (by omega) (by have := a5 g rfl; omega)
    refine ⟨xs.set (j * sz + q) u, L, R, own_block hst (fun b e => by rw [← own_one e]; exact hgW), hv, fun i hi' => ?_⟩
    obtain ⟨b1, b2, b3, b4, b5, b6⟩ := he i hi'
    refine ⟨b1, b2, b3, b4, b5, ?_⟩
    by_cases e : i = j
    · subst e
      have : ((xs.set (i * sz + q) u).drop (i * sz)).take sz = ((xs.drop (i * sz)).take sz).set q u := by
        rw [List.drop_set, if_neg (by omega), Nat.add_sub_cancel_left, List.take_set]
      rw [this]
      exact hE'
    · have hseg : ((xs.set (j * sz + q) u).drop (i * sz)).take sz = (xs.drop (i * sz)).take sz := by
        rcases Nat.lt_or_gt_of_ne e with h | h
        · have h3 : i * sz + sz ≤ j * sz := by rw [← Nat.succ_mul]; exact Nat.mul_le_mul_right _ h
          rw [List.drop_set, if_neg (by omega), List.take_set_of_le (by omega)]
        · have h3 : j * sz + sz ≤ i * sz := by rw [← Nat.succ_mul]; exact Nat.mul_le_mul_right _ h
          rw [List.drop_set, if_pos (by omega)]
      rw [hseg]
      refine hsame _ _ _ _ _ e (hE _ _ _ _ _ _ b6 (fun b c1 c2 => ?_))
      have hap := apart i hi' e
      have hbg : b ≠ g := by have := b5 g rfl; omega
      rw [hB.block b (by omega) (by omega)]
      exact Below.heap_setCell _ _ _ _ hbg
  · intro W E' hB hE' hsame
    refine ⟨xs, L, R, own_block hx (fun b e => by rw [← own_one e]; exact hB.block g (by omega) (by have := a5 g rfl; omega)), hv, fun i hi' => ?_⟩
    obtain ⟨b1, b2, b3, b4, b5, b6⟩ := he i hi'
    refine ⟨b1, b2, b3, b4, b5, ?_⟩
    by_cases e : i = j
    · subst e; exact hE'
    · refine hsame _ _ _ _ _ e (hE _ _ _ _ _ _ b6 (fun b c1 c2 => ?_))
      have hap := apart i hi' e
      exact hB.block b (by omega) (by omega)
end Go.Proofs.Ytkedckmpjedjoaa

/- Marks in goals that an answer owns. -/
namespace Go.Proofs.Ytkedckmpjedjoaa
open Go.RowKit Go.Shelf
set_option linter.unusedVariables false
set_option linter.unusedSimpArgs false

/-- How many marks goals take. -/
def nGs : List Gl → Nat
  | [] => 0
  | x :: s => (1 + 3 * x.a.length + 3 * x.b.length + 3 * x.c.length) + nGs s
theorem nGs_append (s r : List Gl) : nGs (s ++ r) = nGs s + nGs r := by
  induction s with
  | nil => simp [nGs]
  | cons x s ih => simp [nGs, ih]; omega
theorem nGs_succ {s : List Gl} {k : Nat} (h : k < s.length) : nGs (s.take (k + 1)) = nGs (s.take k) + (1 + 3 * s[k].a.length + 3 * s[k].b.length + 3 * s[k].c.length) := by
  rw [List.take_succ_eq_append_getElem h, nGs_append]; simp [nGs]
theorem nGs_take (s : List Gl) (k : Nat) : nGs (s.take k) ≤ nGs s := by
  have := nGs_append (s.take k) (s.drop k)
  rw [List.take_append_drop] at this
  omega
/-- A goal that is marked. -/
def EGm (s : List Gl) (k : Nat) (i l r : Nat) (w : World) (us : List Value) : Prop := ∃ (h : i < s.length) (u1 u2 u3 : Value) (m1 m2 : Nat), us = [.int .i64 ((k + nGs (s.take i) : Nat) : Int), u1, u2, u3] ∧ l ≤ m1 ∧ m1 ≤ m2 ∧ m2 ≤ r ∧
  (∃ a c, u1 = .slice a s[i].a.length c) ∧ (∃ a c, u2 = .slice a s[i].b.length c) ∧ (∃ a c, u3 = .slice a s[i].c.length c) ∧
  Mrkd 40 l m1 w u1 (k + nGs (s.take i) + 1) (3 * s[i].a.length) ∧ Mrkd 40 m1 m2 w u2 (k + nGs (s.take i) + 1 + 3 * s[i].a.length) (3 * s[i].b.length) ∧
  Mrkd 40 m2 r w u3 (k + nGs (s.take i) + 1 + 3 * s[i].a.length + 3 * s[i].b.length) (3 * s[i].c.length)
theorem egm_keeps (s : List Gl) (k : Nat) : Keeps (EGm s k) := fun i l r w w' us ⟨h, u1, u2, u3, m1, m2, e, a1, a2, a3, s1, s2, s3, h1, h2, h3⟩ hk =>
  ⟨h, u1, u2, u3, m1, m2, e, a1, a2, a3, s1, s2, s3, h1.kept (hk.sub (Nat.le_refl _) (by omega)), h2.kept (hk.sub a1 a3), h3.kept (hk.sub (by omega) (Nat.le_refl _))⟩
def EGmid (s : List Gl) (k j : Nat) (i l r : Nat) (w : World) (us : List Value) : Prop := (i < j → EGm s k i l r w us) ∧ (j ≤ i → EGl s i l r w us)
theorem egmid_keeps (s : List Gl) (k j : Nat) : Keeps (EGmid s k j) := fun i l r w w' us h hk => ⟨fun hi => egm_keeps s k _ _ _ _ _ _ (h.1 hi) hk, fun hi => egl_keeps s _ _ _ _ _ _ (h.2 hi) hk⟩
theorem SegL.change {lo hi : Nat} {w : World} {T sz : Nat} {v : Value} {n : Nat} {E E' : Nat → Nat → Nat → World → List Value → Prop} (h : SegL lo hi w T sz v n E) (hE : ∀ i l r w us, i < n → E i l r w us → E' i l r w us) : SegL lo hi w T sz v n E' := by
  obtain ⟨xs, L, R, hx, hv, he⟩ := h
  refine ⟨xs, L, R, hx, hv, fun i hi => ?_⟩
  obtain ⟨b1, b2, b3, b4, b5, b6⟩ := he i hi
  exact ⟨b1, b2, b3, b4, b5, hE _ _ _ _ _ hi b6⟩
theorem Btw.cell {lo hi : Nat} {w w' : World} {g q : Nat} {v : Value} (h : Btw lo hi w w') (hd : g < lo ∨ hi ≤ g) (hc : w.cell? ⟨g, q, none⟩ = some v) : w'.cell? ⟨g, q, none⟩ = some v :=
  (World.cell?_of_block (a := ⟨g, q, none⟩) (h.block g (World.block_lt_of_cell? w _ hc) hd)).trans hc

set_option maxRecDepth 100000 in
set_option maxHeartbeats 4000000 in
theorem markGs_some (g cap lo hi : Nat) (s : List Gl) (k : Nat) (w : World) (hS : SegGS lo hi w (.slice (some ⟨g, 0, none⟩) s.length cap) s) (hh : hi ≤ w.heap.size) (hk1 : 1 ≤ k) (hk : k + nGs s ≤ 16777000) (hn : s.length ≤ 1048576) :
    Calls Try.prog 110 #[.slice (some ⟨g, 0, none⟩) s.length cap, .int .i64 (k : Int)] w fun e w' => e = .returned (.int .i64 ((k + nGs s : Nat) : Int)) ∧ Btw lo hi w w' ∧ SegL lo hi w' 93 4 (.slice (some ⟨g, 0, none⟩) s.length cap) s.length (EGm s k) := by
  have hS0 := hide (hS.change (E' := EGmid s k 0) (fun i l r w us hi h => ⟨fun h' => absurd h' (Nat.not_lt_zero _), fun _ => h⟩))
  clear hS
  go_enter Try.func110, Try.ntmps110
  go_wp2
  go_loopw [1, 5] (fun m i wr => ∃ (j e : Nat), j ≤ s.length ∧ i = .int .i64 j ∧ m = .int .i64 (e : Int) ∧ e = k + nGs (s.take j) ∧ SegL lo hi wr 93 4 (.slice (some ⟨g, 0, none⟩) s.length cap) s.length (EGmid s k j) ∧ Btw lo hi w wr) (fun _ i _ => s.length - (intOf i).toNat)
  case atStart => exact ⟨0, k, Nat.zero_le _, rfl, rfl, by simp [nGs], unhide hS0, Btw.refl _ _ _⟩
  case round =>
    obtain ⟨j, e, hj, rfl, rfl, he, hS, hB⟩ := hrel
    have hel : e ≤ 16777000 := by have := nGs_take s j; omega
    have he1 : 1 ≤ e := by omega
    clear hS0
    by_cases hlt : j < s.length
    · have hsu := nGs_succ hlt
      have hst := nGs_take s (j + 1)
      obtain ⟨l, r, us, b1, b2, b3, b4, hE, hul, hcell, hfr, hrnd, _⟩ := hS.round (egmid_keeps s k j) (Nat.le_trans hh hB.size) hlt (by omega)
      obtain ⟨_, v0, v1, v2, v3, rfl, hG⟩ := hE.2 (Nat.le_refl _)
      obtain ⟨_, m1, m2, a1, a2, a3, S1, S2, S3⟩ := hG
      obtain ⟨p1, q1, x1, _⟩ := S1.1.shape
      obtain ⟨p2, q2, x2, _⟩ := S2.1.shape
      obtain ⟨p3, q3, x3, _⟩ := S3.1.shape
      subst x1 x2 x3
      have c1 := hcell 1 _ rfl
      have c2 := hcell 2 _ rfl
      have c3 := hcell 3 _ rfl
      have c0 := hcell 0 _ rfl
      have f0 : wr.frozen? ⟨g, j * 4, none⟩ = false := hfr _
      have c0' : wr.cell? ⟨g, j * 4, none⟩ = some v0 := c0
      have hgl := World.block_lt_of_cell? wr ⟨_, _, none⟩ c1
      obtain ⟨y, hy⟩ : ∃ y, y = s[j] := ⟨_, rfl⟩
      rw [← hy] at S1 S2 S3 c1 c2 c3 hsu
      obtain ⟨W1, hW1⟩ : ∃ W1, W1 = wr.setCell ⟨g, j * 4, none⟩ (.int .i64 (e : Int)) := ⟨_, rfl⟩
      have hs1 : W1.heap.size = wr.heap.size := by rw [hW1]; simp [World.setCell]
      have hset : ∀ lo' hi', g < lo' ∨ hi' ≤ g → Agree lo' hi' wr W1 := fun lo' hi' hd => by rw [hW1]; exact Agree.set (a := ⟨g, j * 4, none⟩) hd
      have d1 : W1.cell? ⟨g, j * 4 + 1, none⟩ = some (.slice p1 y.a.length q1) := by rw [hW1]; simp [go_sem, c1]
      have d2 : W1.cell? ⟨g, j * 4 + 2, none⟩ = some (.slice p2 y.b.length q2) := by rw [hW1]; simp [go_sem, c2]
      have d3 : W1.cell? ⟨g, j * 4 + 3, none⟩ = some (.slice p3 y.c.length q3) := by rw [hW1]; simp [go_sem, c3]
      have hwr := Nat.le_trans hh hB.size
      have T1 := S1.kept (hset l m1 (by omega))
      have T2 := S2.kept (hset m1 m2 (by omega))
      have T3 := S3.kept (hset m2 r (by omega))
      obtain ⟨e2, he2⟩ : ∃ e2, e2 = e + 1 + 3 * y.a.length := ⟨_, rfl⟩
      obtain ⟨e3, he3⟩ : ∃ e3, e3 = e2 + 3 * y.b.length := ⟨_, rfl⟩
      have H1 : Hid (Calls Try.prog 22 #[.slice p1 y.a.length q1, .int .i64 ((e : Int) + 1)] W1 fun e' w' => e' = .returned (.int .i64 (e2 : Int)) ∧ Btw l m1 W1 w' ∧ Mrkd 40 l m1 w' (.slice p1 y.a.length q1) (e + 1) (3 * y.a.length)) := by
        have h := markC_any l m1 _ y.a (e + 1) W1 T1 (by omega) (by omega) (by omega)
        rw [show ((e + 1 : Nat) : Int) = (e : Int) + 1 by omega] at h
        refine h.mono ?_
        rintro e' w' ⟨h1, h2, h3⟩
        exact ⟨by rw [h1, he2], h2, h3⟩
      have H2 := hide (fun (W : World) (hW : Btw l m1 W1 W) => markC_any m1 m2 (.slice p2 y.b.length q2) y.b e2 W (T2.kept (hW.agree (by omega) (.inr (Nat.le_refl _)))) (by omega) (by omega) (by omega))
      have H3 := hide (fun (W : World) (hW : Btw l m2 W1 W) => markC_any m2 r (.slice p3 y.c.length q3) y.c e3 W (T3.kept (hW.agree (by omega) (.inr (Nat.le_refl _)))) (by omega) (by omega) (by omega))
      have HR := hide (fun (W : World) (hW : Btw l r W1 W) (hE' : EGmid s k (j + 1) j l r W [.int .i64 (e : Int), .slice p1 y.a.length q1, .slice p2 y.b.length q2, .slice p3 y.c.length q3]) => (show SegL lo hi W 93 4 (.slice (some ⟨g, 0, none⟩) s.length cap) s.length (EGmid s k (j + 1)) from
        hrnd 0 (.int .i64 (e : Int)) W (EGmid s k (j + 1)) (by omega) (by rw [hW1] at hW; exact hW) (by rw [hy] at hE'; exact hE') (fun i l r W us hne h => ⟨fun hi => h.1 (by omega), fun hi => h.2 (by omega)⟩)))
      have HBW := hide (show ∀ W, Btw l r W1 W → Btw lo hi w W from fun W hW => by
        have h1 : Btw lo hi wr W1 := by rw [hW1]; exact ⟨rfl, rfl, rfl, by simp [World.setCell], fun b h1 h2 => Below.heap_setCell _ _ _ _ (by
          have hgr := (unhide (hide hS)).shape
          obtain ⟨xs, L, R, hx, hv, _⟩ := hS
          have h3 := (hx.lt g rfl).1
          have h4 := hv g rfl
          show b ≠ g; omega)⟩
        exact hB.trans (h1.trans (hW.wide b1 b3)))
      have HEJ := hide (show ∀ W, Mrkd 40 l m1 W (.slice p1 y.a.length q1) (e + 1) (3 * y.a.length) → Mrkd 40 m1 m2 W (.slice p2 y.b.length q2) e2 (3 * y.b.length) → Mrkd 40 m2 r W (.slice p3 y.c.length q3) e3 (3 * y.c.length) → EGmid s k (j + 1) j l r W [.int .i64 (e : Int), .slice p1 y.a.length q1, .slice p2 y.b.length q2, .slice p3 y.c.length q3] from fun W h1 h2 h3 => by
        refine ⟨fun _ => ?_, fun h => absurd h (by omega)⟩
        rw [he3, he2] at h3
        rw [he2] at h2
        rw [he] at h1 h2 h3 ⊢
        rw [hy] at h1 h2 h3 ⊢
        exact ⟨hlt, _, _, _, m1, m2, rfl, a1, a2, a3, ⟨_, _, rfl⟩, ⟨_, _, rfl⟩, ⟨_, _, rfl⟩, h1, h2, h3⟩)
      have hej : k + nGs (s.take (j + 1)) = e3 + 3 * y.c.length := by rw [hsu]; omega
      have HEK := hide hej
      have HE3 := hide he3
      have hs1' : wr.heap.size ≤ W1.heap.size := by omega
      have hb40 : e2 + 3 * y.b.length ≤ 16777000 := by omega
      have hb41 : e3 + 3 * y.c.length ≤ 16777000 := by omega
      clear hS hrnd hcell hfr hE S1 S2 S3 T1 T2 T3 hset c1 c2 c3 c0 hy hsu hst hej he hB he2 he3 hs1
      go_upto_region 5 with fail
      rw [← hW1]
      clear hW1 f0 c0'
      go_wp2_with fail
      refine (unhide H1).mono ?_
      rintro e' w2 ⟨rfl, hb2, hm2⟩
      have d2' := hb2.cell (by omega) d2
      have d3' := hb2.cell (by omega) d3
      have hs2 := hb2.size
      go_wp2_with fail
      refine (unhide H2 w2 hb2).mono ?_
      rintro e' w3 ⟨rfl, hb3, hm3⟩
      rw [← unhide HE3]
      have d3'' := hb3.cell (by omega) d3'
      have hb23 : Btw l m2 W1 w3 := (hb2.wide (Nat.le_refl _) a2).trans (hb3.wide a1 (Nat.le_refl _))
      have hs3 := hb3.size
      have hm2' := hm2.kept (hb3.agree (by omega) (.inl (Nat.le_refl _)))
      go_wp2_with fail
      refine (unhide H3 w3 hb23).mono ?_
      rintro e' w4 ⟨rfl, hb4, hm4⟩
      have hb24 : Btw l r W1 w4 := (hb23.wide (Nat.le_refl _) a3).trans (hb4.wide (by omega) (Nat.le_refl _))
      have hm2'' := hm2'.kept (hb4.agree (by omega) (.inl (by omega)))
      have hm3' := hm3.kept (hb4.agree (by omega) (.inl (Nat.le_refl _)))
      have FIN := hide (And.intro (unhide HR w4 hb24 (unhide HEJ w4 hm2'' hm3' hm4)) (unhide HBW w4 hb24))
      clear H1 H2 H3 HR HEJ HBW hm2 hm3 hm4 hm2' hm2'' hm3' hb2 hb3 hb4 hb23 hb24 d1 d2 d3 d2' d3' d3''
      go_wp2
      go_roundw
      case rel => exact ⟨j + 1, e3 + 3 * y.c.length, by omega, by go_num, rfl, (unhide HEK).symm, (unhide FIN).1, (unhide FIN).2⟩
      case measure => simp [intOf]; omega
    · have e0 : j = s.length := by omega
      subst e0
      rw [List.take_length] at he
      have FIN := hide (And.intro hB (hS.change (E' := EGm s k) (fun i l r w us hi h => h.1 hi)))
      have HE := hide he
      clear hS hB he
      go_wp2
      go_ret
      exact ⟨by rw [← unhide HE]; rfl, (unhide FIN).1, (unhide FIN).2⟩
end Go.Proofs.Ytkedckmpjedjoaa

/- Marks in goals looked up. -/
namespace Go.Proofs.Ytkedckmpjedjoaa
open Go.RowKit Go.Shelf
set_option linter.unusedVariables false
set_option linter.unusedSimpArgs false

set_option maxRecDepth 100000 in
set_option maxHeartbeats 4000000 in
theorem heldGs_some (g cap lo hi : Nat) (s : List Gl) (k : Nat) (w : World) (hS : SegL lo hi w 93 4 (.slice (some ⟨g, 0, none⟩) s.length cap) s.length (EGm s k)) (hh : hi ≤ w.heap.size) (hk1 : 1 ≤ k) (hk : k + nGs s ≤ 16777000) (hn : s.length ≤ 1048576) :
    Calls Try.prog 111 #[.slice (some ⟨g, 0, none⟩) s.length cap, .int .i64 (k : Int)] w fun e w' => e = .returned (.int .i64 ((k + nGs s : Nat) : Int)) ∧ Below w.heap.size w w' := by
  have HS := hide hS
  clear hS
  go_enter Try.func111, Try.ntmps111
  go_wp2
  go_loopw [1, 5] (fun m i wr => ∃ (j e : Nat), j ≤ s.length ∧ i = .int .i64 j ∧ m = .int .i64 (e : Int) ∧ e = k + nGs (s.take j) ∧ Below w.heap.size w wr) (fun _ i _ => s.length - (intOf i).toNat)
  case atStart => exact ⟨0, k, Nat.zero_le _, rfl, rfl, by simp [nGs], Below.refl _ _⟩
  case round =>
    obtain ⟨j, e, hj, rfl, rfl, he, hB⟩ := hrel
    have hel : e ≤ 16777000 := by have := nGs_take s j; omega
    have he1 : 1 ≤ e := by omega
    by_cases hlt : j < s.length
    · have hsu := nGs_succ hlt
      have hst := nGs_take s (j + 1)
      obtain ⟨l, r, us, b1, b2, b3, b4, hE, hul, hcell, _, _, _⟩ := (unhide HS).round (egm_keeps s k) hh hlt (by omega)
      obtain ⟨_, v1, v2, v3, m1, m2, rfl, a1, a2, a3, ⟨p1, q1, x1⟩, ⟨p2, q2, x2⟩, ⟨p3, q3, x3⟩, M1, M2, M3⟩ := hE
      subst x1 x2 x3
      have hA := Agree.below (lo := l) (hi := r) hB (by omega)
      have hgl : g < w.heap.size := World.block_lt_of_cell? w ⟨_, _, none⟩ (hcell 1 _ rfl)
      have c0 := (hB.cell (p := ⟨g, j * 4, none⟩) hgl).trans (hcell 0 _ rfl)
      have c1 := (hB.cell (p := ⟨g, j * 4 + 1, none⟩) hgl).trans (hcell 1 _ rfl)
      have c2 := (hB.cell (p := ⟨g, j * 4 + 2, none⟩) hgl).trans (hcell 2 _ rfl)
      have c3 := (hB.cell (p := ⟨g, j * 4 + 3, none⟩) hgl).trans (hcell 3 _ rfl)
      rw [← he] at c0 M1 M2 M3
      obtain ⟨y, hy⟩ : ∃ y, y = s[j] := ⟨_, rfl⟩
      rw [← hy] at M1 M2 M3 c1 c2 c3 hsu
      obtain ⟨e2, he2⟩ : ∃ e2, e2 = e + 1 + 3 * y.a.length := ⟨_, rfl⟩
      obtain ⟨e3, he3⟩ : ∃ e3, e3 = e2 + 3 * y.b.length := ⟨_, rfl⟩
      obtain ⟨e4, he4⟩ : ∃ e4, e4 = e3 + 3 * y.c.length := ⟨_, rfl⟩
      rw [← he2] at M2 M3
      rw [← he3] at M3
      have hwr := Nat.le_trans hh hB.size
      have N1 := M1.kept (hA.sub (Nat.le_refl _) (by omega))
      have N2 := M2.kept (hA.sub a1 a3)
      have N3 := M3.kept (hA.sub (by omega) (Nat.le_refl _))
      have H1 : Hid (∀ W, Below wr.heap.size wr W → Calls Try.prog 40 #[.slice p1 y.a.length q1, .int .i64 ((e : Int) + 1)] W fun e' w' => e' = .returned (.int .i64 (e2 : Int)) ∧ Below W.heap.size W w') := fun W hW => by
        have h := N1 W (Agree.below hW (by omega)) (by have := hW.size; omega)
        rw [show ((e + 1 : Nat) : Int) = (e : Int) + 1 by omega, ← he2] at h
        exact h
      have H2 : Hid (∀ W, Below wr.heap.size wr W → Calls Try.prog 40 #[.slice p2 y.b.length q2, .int .i64 (e2 : Int)] W fun e' w' => e' = .returned (.int .i64 (e3 : Int)) ∧ Below W.heap.size W w') := fun W hW => by
        have h := N2 W (Agree.below hW (by omega)) (by have := hW.size; omega)
        rw [← he3] at h
        exact h
      have H3 : Hid (∀ W, Below wr.heap.size wr W → Calls Try.prog 40 #[.slice p3 y.c.length q3, .int .i64 (e3 : Int)] W fun e' w' => e' = .returned (.int .i64 (e4 : Int)) ∧ Below W.heap.size W w') := fun W hW => by
        have h := N3 W (Agree.below hW (by omega)) (by have := hW.size; omega)
        rw [← he4] at h
        exact h
      have hej : k + nGs (s.take (j + 1)) = e4 := by rw [hsu]; omega
      have HEK := hide hej
      have hne : ((e : Int) != (e : Int)) = false := by simp
      have z2 : ¬ ((e2 : Int) < 0) := by omega
      have z3 : ¬ ((e3 : Int) < 0) := by omega
      have z4 : ¬ ((e4 : Int) < 0) := by omega
      have hb4 : e4 ≤ 16777000 := by omega
      have hgr := Nat.lt_of_lt_of_le hgl hB.size
      have HBW := hide hB
      clear hcell M1 M2 M3 N1 N2 N3 hA hy hsu hst hej he he2 he3 he4 hB
      go_wp2_with fail
      refine (unhide H1 _ (Below.refl _ _)).mono ?_
      rintro e' w2 ⟨rfl, hb2⟩
      have d2 := (hb2.cell (p := ⟨g, j * 4 + 2, none⟩) hgr).trans c2
      have d3 := (hb2.cell (p := ⟨g, j * 4 + 3, none⟩) hgr).trans c3
      go_wp2_with fail
      refine (unhide H2 w2 hb2).mono ?_
      rintro e' w3 ⟨rfl, hb3⟩
      have hb23 := bstep hb2 hb3
      have d3' := (hb23.cell (p := ⟨g, j * 4 + 3, none⟩) hgr).trans c3
      go_wp2_with fail
      refine (unhide H3 w3 hb23).mono ?_
      rintro e' w4 ⟨rfl, hb4'⟩
      have FIN := hide (bstep (unhide HBW) (bstep hb23 hb4'))
      clear H1 H2 H3 c0 c1 c2 c3 d2 d3 d3'
      go_wp2
      go_roundw
      case rel => exact ⟨j + 1, e4, by omega, by go_num, rfl, (unhide HEK).symm, unhide FIN⟩
      case measure => simp [intOf]; omega
    · have e0 : j = s.length := by omega
      subst e0
      rw [List.take_length] at he
      have HE := hide he
      clear he
      go_wp2
      go_ret
      exact ⟨by rw [← unhide HE]; rfl, hB⟩

set_option maxRecDepth 100000 in
set_option maxHeartbeats 1000000 in
theorem markGs_none (ao : Option Addr) (cap : Nat) (k : Nat) (w : World) : Calls Try.prog 110 #[.slice ao 0 cap, .int .i64 (k : Int)] w fun e w' => e = .returned (.int .i64 (k : Int)) ∧ w' = w := by
  go_enter Try.func110, Try.ntmps110
  go_wp2
  go_loopw [1, 5] (fun m i wr => wr = w ∧ i = .int .i64 0 ∧ m = .int .i64 (k : Int)) (fun _ _ _ => 0)
  case atStart => exact ⟨rfl, rfl, rfl⟩
  case round =>
    obtain ⟨rfl, rfl, rfl⟩ := hrel
    go_wp2
    go_ret
    exact ⟨rfl, rfl⟩
set_option maxRecDepth 100000 in
set_option maxHeartbeats 1000000 in
theorem heldGs_none (ao : Option Addr) (cap : Nat) (k : Nat) (w : World) : Calls Try.prog 111 #[.slice ao 0 cap, .int .i64 (k : Int)] w fun e w' => e = .returned (.int .i64 (k : Int)) ∧ w' = w := by
  go_enter Try.func111, Try.ntmps111
  go_wp2
  go_loopw [1, 5] (fun m i wr => wr = w ∧ i = .int .i64 0 ∧ m = .int .i64 (k : Int)) (fun _ _ _ => 0)
  case atStart => exact ⟨rfl, rfl, rfl⟩
  case round =>
    obtain ⟨rfl, rfl, rfl⟩ := hrel
    go_wp2
    go_ret
    exact ⟨rfl, rfl⟩

/-- Goals that an answer owns, marked and looked up. -/
theorem markGs_any (v : Value) (lo hi : Nat) (s : List Gl) (k : Nat) (w : World) (hS : SegGS lo hi w v s) (hh : hi ≤ w.heap.size) (hk1 : 1 ≤ k) (hk : k + nGs s ≤ 16777000) (hn : s.length ≤ 1048576) :
    Calls Try.prog 110 #[v, .int .i64 (k : Int)] w (MarkOut 111 lo hi w v k (nGs s)) := by
  obtain ⟨xs, L, R, hx, hv, he⟩ := hS
  rcases hx.2 with ⟨rfl, h0⟩ | ⟨g, cap, cur, rfl, _⟩
  · have : s = [] := List.length_eq_zero_iff.1 h0
    subst this
    refine (markGs_none none 0 k w).mono ?_
    rintro e w' ⟨rfl, rfl⟩
    refine ⟨by simp [nGs], Btw.refl _ _ _, fun W hW hh => ?_⟩
    refine (heldGs_none none 0 k W).mono ?_
    rintro e w' ⟨rfl, rfl⟩
    exact ⟨by simp [nGs], Below.refl _ _⟩
  · refine (markGs_some g cap lo hi s k w ⟨xs, L, R, hx, hv, he⟩ hh hk1 hk hn).mono ?_
    rintro e w' ⟨rfl, hB, hM⟩
    exact ⟨rfl, hB, fun W hW hh' => heldGs_some g cap lo hi s k W (hM.kept (egm_keeps s k) hW) hh' hk1 hk hn⟩
end Go.Proofs.Ytkedckmpjedjoaa
