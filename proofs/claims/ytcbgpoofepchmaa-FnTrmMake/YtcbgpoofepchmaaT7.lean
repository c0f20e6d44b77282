/- The walk of TrmShift. -/
import Derived.Test.YtcbgpoofepchmaaT5
namespace Go.Proofs.Ytcbgpoofepchmaa
open Go.RowKit Go.Shelf
set_option linter.unusedVariables false
set_option linter.unusedSimpArgs false
attribute [local go_sem] Oper.semAt_some

def shiftC (n : Int) (c : C) : C := if c.k = 1 then ⟨c.k, c.n + n, c.s⟩ else c

/-- What TrmShift is of places. -/
def shiftOf (t : List C) (n : Int) : List C := if trm t = true ∧ 0 ≤ n ∧ n ≤ 99999 then listed (t.map (shiftC n)) else []

theorem shiftOf_no {t : List C} {n : Int} (h : trm t = false) : shiftOf t n = [] := by simp [shiftOf, h]
theorem shiftOf_out {t : List C} {n : Int} (h : n < 0 ∨ 99999 < n) : shiftOf t n = [] := by
  unfold shiftOf; rw [if_neg (fun h' => by omega)]
theorem shiftOf_in {t : List C} {n : Int} (h : trm t = true) (h0 : 0 ≤ n) (h1 : n ≤ 99999) : shiftOf t n = listed (t.map (shiftC n)) := by
  unfold shiftOf; rw [if_pos ⟨h, h0, h1⟩]
theorem listed_len (t : List C) : (listed t).length ≤ t.length := by unfold listed; split <;> simp
theorem shiftOf_len (t : List C) (n : Int) : (shiftOf t n).length ≤ t.length := by
  unfold shiftOf; split
  · have := listed_len (t.map (shiftC n)); simpa using this
  · simp

/-- So often added to. -/
def addN (n : Int) : Nat → Int → Int
  | 0, v => v
  | m + 1, v => IntKind.i64.wrap (addN n m v + n)

def cntB {α : Type} (bl : α → Nat) (pre : List α) (b : Nat) : Nat := (pre.filter (fun x => bl x == b)).length

theorem cntB_snoc_same {α : Type} (bl : α → Nat) (pre : List α) (x : α) : cntB bl (pre ++ [x]) (bl x) = cntB bl pre (bl x) + 1 := by simp [cntB]
theorem cntB_snoc_other {α : Type} (bl : α → Nat) (pre : List α) (x : α) {b : Nat} (h : b ≠ bl x) : cntB bl (pre ++ [x]) b = cntB bl pre b := by
  simp [cntB, Ne.symm h]

theorem cntB_one {α : Type} (bl : α → Nat) : ∀ (xs : List α), (xs.map bl).Nodup → ∀ x ∈ xs, cntB bl xs (bl x) = 1
  | [], _, x, hx => by cases hx
  | y :: ys, h, x, hx => by
      rw [List.map_cons, List.nodup_cons] at h
      rcases List.mem_cons.1 hx with rfl | hx
      · have : ys.filter (fun y => bl y == bl x) = [] := by
          rw [List.filter_eq_nil_iff]
          intro a ha
          simp
          exact fun e => h.1 (List.mem_map.2 ⟨a, ha, e⟩)
        simp [cntB, this]
      · have hne : ¬ bl y = bl x := fun e => h.1 (List.mem_map.2 ⟨x, hx, e.symm⟩)
        have := cntB_one bl ys h.2 x hx
        unfold cntB at this ⊢
        rw [List.filter_cons, if_neg (by simpa using hne)]
        exact this

/-- The number at a node behind so many rounds. -/
def nowN (n : Int) (m : Nat) (c : C) : Int := if c.k = 1 then addN n m c.n else c.n

/-- What the nodes hold. -/
def NowAt (z : List (Nat × C)) (n : Int) (cnt : Nat → Nat) (W : World) : Prop := ∀ y ∈ z, W.cell? ⟨y.1, 0, none⟩ = some (.int .i64 y.2.k) ∧ W.cell? ⟨y.1, 1, none⟩ = some (.int .i64 (nowN n (cnt y.1) y.2)) ∧ W.cell? ⟨y.1, 2, none⟩ = some (.string y.2.s) ∧ W.frozen? ⟨y.1, 1, none⟩ = false

theorem Tre.node {S : Nat → Prop} {W : World} : ∀ {f p : Nat} {z : List (Nat × C)}, Tre S W f p z → ∀ x ∈ z, ∃ v, Node W x.1 x.2 v
  | f + 1, p, z, ⟨c, ks, ao, cap, e, hp, hl, hn, hr, hs⟩, x, hx => by
      rw [e] at hx
      rcases List.mem_cons.1 hx with rfl | hx
      · exact ⟨_, hn⟩
      · obtain ⟨l, hl, hx⟩ := List.mem_flatten.1 hx
        obtain ⟨k, hk, rfl⟩ := List.mem_map.1 hl
        exact (hs k hk).node x hx

theorem Shp.more {n₀ n₁ : Nat} {W : World} (h : n₀ ≤ n₁) : ∀ {f p : Nat} {gs : List Nat}, Shp n₀ W f p gs → Shp n₁ W f p gs
  | f + 1, p, gs, ⟨ks, ao, cap, hg, hp, hm, hc, hr, hs⟩ => ⟨ks, ao, cap, hg, by omega, hm, hc, hr.imp_right fun ⟨q, e, hq, h'⟩ => ⟨q, e, by omega, h'⟩, fun k hm => (hs k hm).more h⟩

theorem kps_setInt {n₀ : Nat} {W : World} {b i : Nat} {x y : Int} (h : W.cell? ⟨b, i, none⟩ = some (.int .i64 x)) : KpS n₀ W (W.setCell ⟨b, i, none⟩ (.int .i64 y)) := by
  intro b' i' v hb hc hv
  by_cases e : (⟨b', i', none⟩ : Addr) = ⟨b, i, none⟩
  · rw [e, h] at hc
    cases hc
    exact absurd rfl (hv .i64 x)
  · rw [World.cell?_setCell_other _ _ _ _ (fun h => e h.symm)]; exact hc

theorem ownFrom_kps {β : Type} {n₀ B : Nat} {w : World} (h : n₀ ≤ B) (hw : B ≤ w.heap.size) : OwnFrom (β := β) B (fun _ W => KpS n₀ w W ∧ w.heap.size ≤ W.heap.size) := by
  rintro s W W' row ⟨hk, hs⟩ hg hr
  refine ⟨hk.trans (KpS.of_below ((Below.refl n₀ W).grown hg (by omega) (fun k e => by have := (hr k e).1; omega))), by have := hg.size; omega⟩

theorem now_same {z : List (Nat × C)} {n : Int} {cnt cnt' : Nat → Nat} {W : World} (h : NowAt z n cnt W) (hc : ∀ y ∈ z, nowN n (cnt' y.1) y.2 = nowN n (cnt y.1) y.2) : NowAt z n cnt' W := fun y hy => by
  obtain ⟨a, b, c, d⟩ := h y hy
  exact ⟨a, by rw [hc y hy]; exact b, c, d⟩

theorem nodup_fst {z : List (Nat × C)} (hnd : (z.map (·.1)).Nodup) : ∀ {x y : Nat × C}, x ∈ z → y ∈ z → x.1 = y.1 → x = y := by
  induction z with
  | nil => intro x y hx; cases hx
  | cons a z ih =>
    rw [List.map_cons, List.nodup_cons] at hnd
    intro x y hx hy e
    rcases List.mem_cons.1 hx with rfl | hx' <;> rcases List.mem_cons.1 hy with rfl | hy'
    · rfl
    · exact absurd (List.mem_map.2 ⟨y, hy', e.symm⟩) hnd.1
    · exact absurd (List.mem_map.2 ⟨x, hx', e⟩) hnd.1
    · exact ih hnd.2 hx' hy' e

theorem now_set {z : List (Nat × C)} (hnd : (z.map (·.1)).Nodup) {n : Int} {cnt cnt' : Nat → Nat} {W : World} (h : NowAt z n cnt W) {x : Nat × C} (hx : x ∈ z) (h1 : x.2.k = 1) (hs : cnt' x.1 = cnt x.1 + 1) (ho : ∀ b, b ≠ x.1 → cnt' b = cnt b) :
    NowAt z n cnt' (W.setCell ⟨x.1, 1, none⟩ (.int .i64 (IntKind.i64.wrap (nowN n (cnt x.1) x.2 + n)))) := fun y hy => by
  obtain ⟨a, b, c, d⟩ := h y hy
  have ne0 : (⟨x.1, 1, none⟩ : Addr) ≠ ⟨y.1, 0, none⟩ := by simp
  have ne2 : (⟨x.1, 1, none⟩ : Addr) ≠ ⟨y.1, 2, none⟩ := by simp
  refine ⟨by rw [World.cell?_setCell_other _ _ _ _ ne0]; exact a, ?_, by rw [World.cell?_setCell_other _ _ _ _ ne2]; exact c, by rw [World.frozen?_setCell]; exact d⟩
  by_cases e : y.1 = x.1
  · obtain rfl := nodup_fst hnd hy hx e
    rw [hs]
    rw [World.cell?_setCell_same' _ _ _ (by rw [b]; rfl)]
    simp [nowN, h1, addN]
  · rw [ho _ e, World.cell?_setCell_other _ _ _ _ (fun h => e (congrArg Addr.block h).symm)]
    exact b

set_option maxRecDepth 100000 in
set_option maxHeartbeats 4000000 in
theorem TrmShift_yes (ao : Option Addr) (cap : Nat) (t : List C) (n : Int) (w : World) (hcap : t.length ≤ cap) (hcm : cap ≤ maxLen) (hA : Row w ao t) (hF : Fit t) (hy : trm t = true) (h0 : 0 ≤ n) (h1 : n ≤ 99999) :
    Calls Try.prog 33 #[.slice ao t.length cap, .int .i64 n] w fun e w' => ∃ v, e = .returned v ∧ OwnC w' w.heap.size v (listed (t.map (shiftC n))) ∧ Below w.heap.size w w' := by
  have H := hide (treeOf_yes (w.alloc (.cells #[.int .i64 n] 3)).heap.size ao cap t (w.alloc (.cells #[.int .i64 n] 3)) hcap hcm (Nat.le_refl _) (hA.below (cell_below _ _)) hF hy)
  refine (callsIn_wide (n := 5)).1 ?_
  refine callsIn_of_wp_marks Try.func33 rfl trivial ?_ rfl
  simp only [Try.ntmps33, List.size_toArray, List.length_cons, List.length_nil, Nat.reduceAdd, Nat.reduceSub, Array.replicate_succ, Array.replicate_zero, List.push_toArray, List.append_toArray, List.nil_append, List.cons_append]
  have hl := trm_len hy
  have HOK := hide ((trm_iff t).1 hy).2.2.1
  have HF := hide hF
  clear hA hF hy
  gi_wp2_with (first | (refine ⟨trivial, ?_⟩; gi_at_call 56; refine (callsIn_wide.2 (unhide H)).mono ?_; clear H; rintro e w1 ⟨p, z, rfl, hz, hnd, hT, hb1⟩; have HZ := hide hz; have HND := hide hnd; have HT := hide hT; clear hz hnd hT; have hcn : w1.cell? ⟨w.heap.size, 0, none⟩ = some (.int .i64 n) := (hb1.cell (p := ⟨w.heap.size, 0, none⟩) (by simp)).trans (by simp)) | (refine ⟨trivial, ?_⟩; gi_at_call 65; refine (nodes_in Fence.wide _ trivial rfl _ _).mono ?_; rintro e w2 ⟨rfl, rfl⟩))
  have hsz1 := hb1.size
  simp at hsz1
  have hbw1 : Below w.heap.size w w1 := ((Below.refl _ w).alloc (Nat.le_refl _) _).trans (hb1.mono (by simp))
  have bN := Boxed.new w1 61 (.pointer (some ⟨p, 0, none⟩))
  obtain ⟨xs, hxs⟩ := lift_sub z (fun x hx => hx)
  have HXS := hide hxs
  clear hxs
  have HHELD : Hid (∀ x ∈ z, Held w1.heap.size w1 x) := (unhide HT).held (fun b hb => hb.2)
  have HBLK : Hid (∀ x ∈ z, w.heap.size + 1 ≤ x.1 ∧ x.1 < w1.heap.size) := fun x hx => by have := (unhide HT).blocks x hx; simpa using this
  have hB2 : Below w1.heap.size w1 (w1.alloc (.cells #[.pointer (some ⟨p, 0, none⟩)] 61)) := cell_below _ _
  have HNOW : Hid (NowAt z n (cntB (fun x : {x : Nat × C // x ∈ z} => x.1.1) []) (w1.alloc (.cells #[.pointer (some ⟨p, 0, none⟩)] 61))) := fun y hy => by
    obtain ⟨q0, q1, q2, q3⟩ := unhide HHELD y hy
    obtain ⟨v, hv⟩ := (unhide HT).node y hy
    refine ⟨(hB2.cell (p := ⟨y.1, 0, none⟩) q0).trans q1, ?_, (hB2.cell (p := ⟨y.1, 2, none⟩) q0).trans q3, ?_⟩
    · rw [(hB2.cell (p := ⟨y.1, 1, none⟩) q0), q2]
      simp [nowN, cntB, addN]
    · have : Node (w1.alloc (.cells #[.pointer (some ⟨p, 0, none⟩)] 61)) y.1 y.2 v := (hB2.block _ q0).trans hv
      simp [World.frozen?, show (w1.alloc (.cells #[.pointer (some ⟨p, 0, none⟩)] 61)).heap[y.1]? = _ from this]
  refine wpIn_rangeFunc_ownG rfl (by omega) (gf := 80) (lb := #[.pointer (some ⟨w1.heap.size, 0, none⟩)]) rfl trivial (enters_of Try.func80 (by kernel_rfl) rfl)
    (nodes_stops (fun x : {x : Nat × C // x ∈ z} => x.1.1) Fence.wide rfl _ trivial trivial rfl w1.heap.size w1.heap.size t.length p _ xs _ (by simp) (by simp) bN.cell (((unhide HT).shp (fun b hb => hb.2)).below hB2) (by have h := congrArg (List.map Prod.fst) (unhide HXS); rw [List.map_map] at h; exact h)) kpsK_t (kpsK_b (by simp)) (Below.refl _ _) (fun _ => rfl)
    (fun pre W => (W.cell? ⟨w.heap.size, 0, none⟩ = some (.int .i64 n) ∧ NowAt z n (cntB (fun x : {x : Nat × C // x ∈ z} => x.1.1) pre) W) ∧ ((KpS w1.heap.size (w1.alloc (.cells #[.pointer (some ⟨p, 0, none⟩)] 61)) W ∧ (w1.alloc (.cells #[.pointer (some ⟨p, 0, none⟩)] 61)).heap.size ≤ W.heap.size) ∧ Below w.heap.size w W))
    (fun _ _ _ => False)
    (OwnFrom.and (Own.from (fun s A B row hs hg hr => ⟨cell_kept hs.1 hg hr, fun y hy => ⟨cell_kept (hs.2 y hy).1 hg hr, cell_kept (hs.2 y hy).2.1 hg hr, cell_kept (hs.2 y hy).2.2.1 hg hr, (frozen_kept (hs.2 y hy).2.1 hg hr).trans (hs.2 y hy).2.2.2⟩⟩) _) (OwnFrom.and (ownFrom_kps (by simp) (Nat.le_refl _)) (ownFrom_below (Nat.le_refl _) (by simp; omega))))
    (fun _ _ _ _ _ hs _ _ => hs)
    ⟨⟨(hB2.cell (p := ⟨w.heap.size, 0, none⟩) (by simp; omega)).trans hcn, unhide HNOW⟩, ⟨KpS.refl _ _, Nat.le_refl _⟩, bstep hbw1 hB2⟩
    (fun x => { tmps := #[.slice ao t.length cap, .int .i64 n, undef, .pointer (some ⟨w.heap.size, 0, none⟩), .slice none 0 0, .pointer (some ⟨p, 0, none⟩), .pointer (some ⟨x.1.1, 0, none⟩), .slice ao t.length cap, .pointer (some ⟨p, 0, none⟩), .pointer (some ⟨p, 0, none⟩), .bool false, .bool false, .int .i64 n, .bool (decide (n < 0)), .bool (decide (n < 0)), .bool (decide (n < 0)), .int .i64 n, .bool (decide (99999 < n)), .bool (decide (n < 0) || decide (99999 < n)), .pointer (some ⟨p, 0, none⟩), .func (.func 80) #[] #[.pointer (some ⟨w1.heap.size, 0, none⟩)], .pointer (some ⟨x.1.1, 0, none⟩), undef, undef, undef, undef, undef, undef, undef, undef, undef, undef, undef, undef, undef, undef, undef, undef, undef, undef], defers := [] }) ?assign ?body ?done ?stop
  case assign =>
    intro l x W K hK
    gi_wp2
    exact hK
  case body =>
    rintro l pre x W ⟨⟨hcw, hnow⟩, ⟨hkp, hks⟩, hB⟩ hlt
    obtain ⟨⟨g, c⟩, hx⟩ := x
    obtain ⟨q0, q1, q2, q3⟩ := hnow _ hx
    dsimp only at q0 q1 q2 q3
    have hblk := unhide HBLK _ hx
    dsimp only at hblk
    by_cases hk1 : c.k = 1
    · have hb : (c.k == 1) = true := by simpa using hk1
      have FIN := hide (now_set (cnt' := cntB (fun x : {x : Nat × C // x ∈ z} => x.1.1) (pre ++ [⟨(g, c), hx⟩])) (unhide HND) hnow hx hk1 (cntB_snoc_same _ pre ⟨(g, c), hx⟩) (fun b hb => cntB_snoc_other _ pre ⟨(g, c), hx⟩ hb))
      have HFIN : Hid (KeepsFrom (w1.alloc (.cells #[.pointer (some ⟨p, 0, none⟩)] 61)).heap.size W (W.setCell ⟨g, 1, none⟩ (.int .i64 (IntKind.i64.wrap (nowN n (cntB (fun x : {x : Nat × C // x ∈ z} => x.1.1) pre g) c + n)))).drew ∧ KpS w1.heap.size W (W.setCell ⟨g, 1, none⟩ (.int .i64 (IntKind.i64.wrap (nowN n (cntB (fun x : {x : Nat × C // x ∈ z} => x.1.1) pre g) c + n)))).drew ∧
          (((W.setCell ⟨g, 1, none⟩ (.int .i64 (IntKind.i64.wrap (nowN n (cntB (fun x : {x : Nat × C // x ∈ z} => x.1.1) pre g) c + n)))).drew.cell? ⟨w.heap.size, 0, none⟩ = some (.int .i64 n) ∧ NowAt z n (cntB (fun x : {x : Nat × C // x ∈ z} => x.1.1) (pre ++ [⟨(g, c), hx⟩])) (W.setCell ⟨g, 1, none⟩ (.int .i64 (IntKind.i64.wrap (nowN n (cntB (fun x : {x : Nat × C // x ∈ z} => x.1.1) pre g) c + n)))).drew) ∧ ((KpS w1.heap.size (w1.alloc (.cells #[.pointer (some ⟨p, 0, none⟩)] 61)) (W.setCell ⟨g, 1, none⟩ (.int .i64 (IntKind.i64.wrap (nowN n (cntB (fun x : {x : Nat × C // x ∈ z} => x.1.1) pre g) c + n)))).drew ∧ (w1.alloc (.cells #[.pointer (some ⟨p, 0, none⟩)] 61)).heap.size ≤ (W.setCell ⟨g, 1, none⟩ (.int .i64 (IntKind.i64.wrap (nowN n (cntB (fun x : {x : Nat × C // x ∈ z} => x.1.1) pre g) c + n)))).drew.heap.size) ∧ Below w.heap.size w (W.setCell ⟨g, 1, none⟩ (.int .i64 (IntKind.i64.wrap (nowN n (cntB (fun x : {x : Nat × C // x ∈ z} => x.1.1) pre g) c + n)))).drew))) := by
        generalize IntKind.i64.wrap (nowN n (cntB (fun x : {x : Nat × C // x ∈ z} => x.1.1) pre g) c + n) = vv at FIN ⊢
        have hkk : KpS w1.heap.size W (W.setCell ⟨g, 1, none⟩ (.int .i64 vv)) := kps_setInt q1
        refine ⟨((KeepsOthers.setCell _ _ _).trans (KeepsOthers.drew _)).from _, hkk, ⟨?_, unhide FIN⟩, ⟨hkp.trans hkk, ?_⟩, (hB.setCell (p := ⟨g, 1, none⟩) (by show w.heap.size ≤ g; omega) _).drew⟩
        · show (W.setCell ⟨g, 1, none⟩ (.int .i64 vv)).cell? ⟨w.heap.size, 0, none⟩ = some (.int .i64 n)
          rw [World.cell?_setCell_other _ _ _ _ (fun h => by have := congrArg Addr.block h; dsimp only at this; omega)]
          exact hcw
        · show _ ≤ (W.setCell ⟨g, 1, none⟩ (.int .i64 vv)).heap.size
          have e : (W.setCell ⟨g, 1, none⟩ (.int .i64 vv)).heap.size = W.heap.size := by simp
          rw [e]; exact hks
      clear hk1 hnow FIN
      have hmx : Try.prog.follows .mixedOrders = true := by kernel_rfl
      gi_wp2
      gi_region_with_o (fail)
      all_goals gi_wp2
      all_goals exact unhide HFIN
    · have hb : (c.k == 1) = false := by simpa using hk1
      have FIN := hide (now_same (cnt' := cntB (fun x : {x : Nat × C // x ∈ z} => x.1.1) (pre ++ [⟨(g, c), hx⟩])) hnow (fun y hy => by
        by_cases e : y.1 = g
        · obtain rfl := nodup_fst (unhide HND) hy hx e
          simp [nowN, hk1]
        · rw [cntB_snoc_other _ pre ⟨(g, c), hx⟩ e]))
      clear hk1 hnow
      gi_wp2
      exact ⟨KeepsFrom.refl _ _, KpS.refl _ _, ⟨hcw, unhide FIN⟩, ⟨hkp, hks⟩, hB⟩
  case done =>
    rintro D ys W hD rfl ⟨⟨hcw, hnow⟩, ⟨hkp, hks⟩, hB⟩ hK
    have hDl : D < W.heap.size := (Array.getElem?_eq_some_iff.1 hK).1
    have hsW : w1.heap.size ≤ W.heap.size := by simp at hks; omega
    have hSW : Shp W.heap.size W t.length p ((z.map (fun y => (y.1, shiftC n y.2))).map (·.1)) := by
      rw [List.map_map]
      exact (((((unhide HT).shp (fun b hb => hb.2)).below hB2).kept hkp).more hsW)
    have hHW : ∀ x ∈ z.map (fun y => (y.1, shiftC n y.2)), Held W.heap.size W x := fun x hx => by
      obtain ⟨y, hy, rfl⟩ := List.mem_map.1 hx
      obtain ⟨q0, q1, q2, q3⟩ := hnow y hy
      have hbk := unhide HBLK y hy
      obtain ⟨x', hx', rfl⟩ : ∃ x' ∈ ys, x'.1 = y := by
        have : y ∈ ys.map (·.1) := by rw [unhide HXS]; exact hy
        obtain ⟨x', hx', e⟩ := List.mem_map.1 this
        exact ⟨x', hx', e⟩
      have hc1 := cntB_one (fun x : {x : Nat × C // x ∈ z} => x.1.1) ys (by have h := congrArg (List.map Prod.fst) (unhide HXS); rw [List.map_map] at h; have h2 := unhide HND; rw [← h] at h2; exact h2) x' hx'
      try dsimp only at hc1
      rw [hc1] at q1
      have hokc := unhide HOK x'.1.2 (by rw [← unhide HZ]; exact List.mem_map.2 ⟨_, hy, rfl⟩)
      refine ⟨by show x'.1.1 < W.heap.size; omega, ?_, ?_, ?_⟩
      · show W.cell? ⟨x'.1.1, 0, none⟩ = some (.int .i64 (shiftC n x'.1.2).k)
        rw [q0]; unfold shiftC; split <;> rfl
      · show W.cell? ⟨x'.1.1, 1, none⟩ = some (.int .i64 (shiftC n x'.1.2).n)
        rw [q1]
        unfold nowN shiftC
        by_cases h1k : x'.1.2.k = 1
        · rw [if_pos h1k, if_pos h1k]
          have hr := (okC1 h1k).1 hokc
          show some (Value.int .i64 (IntKind.i64.wrap (x'.1.2.n + n))) = some (Value.int .i64 (x'.1.2.n + n))
          have e : IntKind.i64.wrap (x'.1.2.n + n) = x'.1.2.n + n := by
            simp [IntKind.wrap, IntKind.bits, IntKind.signed]
            omega
          rw [e]
        · rw [if_neg h1k, if_neg h1k]
      · show W.cell? ⟨x'.1.1, 2, none⟩ = some (.string (shiftC n x'.1.2).s)
        rw [q2]; unfold shiftC; split <;> rfl
    have HL := hide (list_any t.length p (z.map (fun y => (y.1, shiftC n y.2))) (t.map (shiftC n)) (hide (by rw [← unhide HZ, List.map_map, List.map_map]; rfl)) W hSW hHW (by
      rw [List.length_map]
      have := congrArg List.length (unhide HZ)
      rw [List.length_map] at this
      omega) (fun c hc => by
      obtain ⟨c', hc', rfl⟩ := List.mem_map.1 hc
      have := unhide HF c' hc'
      unfold shiftC; split <;> exact this))
    clear hSW hHW hnow hkp HNOW HHELD
    gi_wp2_with (refine ⟨trivial, ?_⟩; gi_at_call 57; refine (callsIn_wide.2 (unhide HL)).mono ?_; rintro e w' ⟨v, rfl, hO, hb1'⟩)
    refine ⟨by simp, .inl ⟨_, _, rfl, run_takeDeferred ((hb1'.block D hDl).trans hK), ?_⟩⟩
    refine ⟨_, results_tmp rfl _ _ _, _, rfl, ?_, (bstep hB hb1').trans (belowK_b (w := w) (Nat.le_refl _) _ D _ _ (by simp at hD; omega) ((hb1'.block D hDl).trans hK) rfl rfl)⟩
    exact ownsRow_putObj (OwnC.base hO hB.size) _ ((hb1'.block D hDl).trans hK) rfl
  case stop =>
    rintro D c pre W _ _ h _
    exact h.elim

set_option maxHeartbeats 1000000 in
theorem TrmShift_out (ao : Option Addr) (cap : Nat) (t : List C) (n : Int) (w : World) (hcap : t.length ≤ cap) (hcm : cap ≤ maxLen) (hA : Row w ao t) (hF : Fit t) (hy : trm t = true) (h : n < 0 ∨ 99999 < n) :
    Calls Try.prog 33 #[.slice ao t.length cap, .int .i64 n] w fun e w' => e = .returned (.slice none 0 0) ∧ Below w.heap.size w w' := by
  have H := hide (treeOf_yes (w.alloc (.cells #[.int .i64 n] 3)).heap.size ao cap t (w.alloc (.cells #[.int .i64 n] 3)) hcap hcm (Nat.le_refl _) (hA.below (cell_below _ _)) hF hy)
  clear hA hF hy
  have HH := hide h
  clear h
  by_cases h0 : n < 0
  · go_enter Try.func33, Try.ntmps33
    go_wp2_with (go_at_call 56; refine (unhide H).mono ?_; clear H; rintro e w1 ⟨p, z, rfl, hz, hnd, hT, hb1⟩; clear hz hnd hT; have hcn : w1.cell? ⟨w.heap.size, 0, none⟩ = some (.int .i64 n) := (hb1.cell (p := ⟨w.heap.size, 0, none⟩) (by simp)).trans (by simp))
    go_ret
    exact ⟨rfl, bstep (cell_below _ _) hb1⟩
  · have h1 : 99999 < n := by rcases unhide HH with h | h; exact absurd h h0; exact h
    go_enter Try.func33, Try.ntmps33
    go_wp2_with (go_at_call 56; refine (unhide H).mono ?_; clear H; rintro e w1 ⟨p, z, rfl, hz, hnd, hT, hb1⟩; clear hz hnd hT; have hcn : w1.cell? ⟨w.heap.size, 0, none⟩ = some (.int .i64 n) := (hb1.cell (p := ⟨w.heap.size, 0, none⟩) (by simp)).trans (by simp))
    go_ret
    exact ⟨rfl, bstep (cell_below _ _) hb1⟩

theorem TrmShift_any (ao : Option Addr) (cap : Nat) (t : List C) (n : Int) (w : World) (hm : t.length ≤ maxLen) (hcap : t.length ≤ cap) (hcm : cap ≤ maxLen) (hA : Row w ao t) (hF : Fit t) :
    Calls Try.prog 33 #[.slice ao t.length cap, .int .i64 n] w fun e w' => ∃ v, e = .returned v ∧ OwnC w' w.heap.size v (shiftOf t n) ∧ Below w.heap.size w w' := by
  cases hy : trm t with
  | false =>
    rw [shiftOf_no hy]
    refine (TrmShift_no ao cap t n w hm hA hF hy).mono ?_
    rintro e w1 ⟨rfl, hb⟩
    exact ⟨_, rfl, World.ownsRow_nil _ _ _ _, hb⟩
  | true =>
    by_cases h : 0 ≤ n ∧ n ≤ 99999
    · rw [shiftOf_in hy h.1 h.2]
      exact TrmShift_yes ao cap t n w hcap hcm hA hF hy h.1 h.2
    · have h' : n < 0 ∨ 99999 < n := by omega
      rw [shiftOf_out h']
      refine (TrmShift_out ao cap t n w hcap hcm hA hF hy h').mono ?_
      rintro e w1 ⟨rfl, hb⟩
      exact ⟨_, rfl, World.ownsRow_nil _ _ _ _, hb⟩
end Go.Proofs.Ytcbgpoofepchmaa
