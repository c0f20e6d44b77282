/- The walks of toSubBindS, eqSubBind(S). -/
import Derived.Test.YtkedckmpjedjoaaQSN13SN14SB2
namespace Go.Proofs.Ytkedckmpjedjoaa
open Go.RowKit
set_option linter.unusedVariables false
set_option linter.unusedSimpArgs false

theorem Try.infoSub : (Try.prog.info? 172).map (fun i => (i.zero, i.size, i.bytes)) = some (some (.agg #[.int .i64 0, .slice none 0 0]), 2, 32) := by kernel_rfl

theorem set2_take (xs : List Value) (k : Nat) (a b : Value) (h : k * 2 + 2 ≤ xs.length) :
    ((xs.set (k * 2) a).set (k * 2 + 1) b).take ((k + 1) * 2) = xs.take (k * 2) ++ [a, b] := by
  apply List.ext_getElem?
  intro i
  rw [List.getElem?_take]
  by_cases h1 : i < k * 2
  · rw [if_pos (by omega), List.getElem?_append_left (by simp; omega), List.getElem?_set_ne (by omega), List.getElem?_set_ne (by omega), List.getElem?_take, if_pos h1]
  · rw [List.getElem?_append_right (by simp; omega)]
    have hl : (xs.take (k * 2)).length = k * 2 := by simp; omega
    rw [hl]
    by_cases e0 : i = k * 2
    · subst e0; rw [if_pos (by omega), List.getElem?_set_ne (by omega), List.getElem?_set_self (by omega)]; simp
    by_cases e1 : i = k * 2 + 1
    · subst e1; rw [if_pos (by omega), List.getElem?_set_self (by simp; omega)]; simp [show k * 2 + 1 - k * 2 = 1 by omega]
    · rw [if_neg (by omega), List.getElem?_eq_none (by simp; omega)]

/-- How far toSubBindS has come. -/
def ToB (w : World) (s : List B) (k : Nat) (wr : World) : Prop := ∃ xs us, wr.ownsRow w.heap.size 172 2 (.slice (some ⟨w.heap.size, 0, none⟩) s.length s.length) s.length xs ∧ us.length = k ∧ xs.take (k * 2) = flatB (s.take k) us ∧
    (∀ i, (h : i < s.length) → (h' : i < us.length) → OwnC wr w.heap.size us[i] s[i].t) ∧ (us.filterMap Value.ownBlock).Nodup ∧ (∀ u ∈ us, ∀ j, u.ownBlock = some j → w.heap.size < j ∧ j < wr.heap.size) ∧ Below w.heap.size w wr

theorem toB_round {w wr w1 : World} {s : List B} {k g : Nat} (hk : k < s.length) (hT : ToB w s k wr) (hb1 : Below wr.heap.size wr w1) (hgl : g < w1.heap.size)
    (ho : w1.ownsRow wr.heap.size 98 3 (.slice (some ⟨g, 0, none⟩) s[k].t.length s[k].t.length) s[k].t.length (flat s[k].t)) :
    (∃ a b, w1.cell? ⟨w.heap.size, k * 2, none⟩ = some a ∧ w1.cell? ⟨w.heap.size, k * 2 + 1, none⟩ = some b) ∧ (w1.frozen? ⟨w.heap.size, k * 2, none⟩ = false ∧ w1.frozen? ⟨w.heap.size, k * 2 + 1, none⟩ = false) ∧
    ToB w s (k + 1) ((w1.setCell ⟨w.heap.size, k * 2, none⟩ (.int .i64 s[k].v)).setCell ⟨w.heap.size, k * 2 + 1, none⟩ (.slice (some ⟨g, 0, none⟩) s[k].t.length s[k].t.length)) := by
  obtain ⟨xs, us, h1, h2, h3, h4, h5, h6, h7⟩ := hT
  have hl : xs.length = s.length * 2 := h1.1
  have hgw : wr.heap.size ≤ g := (ho.lt g rfl).1
  have hsz : w.heap.size < wr.heap.size := (h1.lt _ rfl).2
  have o1 := own_below h1 hb1
  have s1 := o1.stored (k * 2) (.int .i64 s[k].v)
  have s2 := s1.1.stored (k * 2 + 1) (.slice (some ⟨g, 0, none⟩) s[k].t.length s[k].t.length)
  have hblk : ∀ j, j ≠ w.heap.size → ((w1.setCell ⟨w.heap.size, k * 2, none⟩ (.int .i64 s[k].v)).setCell ⟨w.heap.size, k * 2 + 1, none⟩ (.slice (some ⟨g, 0, none⟩) s[k].t.length s[k].t.length)).heap[j]? = w1.heap[j]? := fun j hj => by
    rw [Below.heap_setCell _ _ _ _ hj, Below.heap_setCell _ _ _ _ hj]
  refine ⟨⟨_, _, (o1.cellAt (k * 2) (by omega)).trans (List.getElem?_eq_getElem (by omega)), (o1.cellAt (k * 2 + 1) (by omega)).trans (List.getElem?_eq_getElem (by omega))⟩, ⟨o1.frozenAt _, o1.frozenAt _⟩, ?_⟩
  refine ⟨_, us ++ [.slice (some ⟨g, 0, none⟩) s[k].t.length s[k].t.length], s2.1, by simp [h2], ?_, fun i hi hi' => ?_, ?_, fun u hu j e => ?_, ?_⟩
  · rw [set2_take xs k _ _ (by omega), h3, List.take_succ_eq_append_getElem hk, flatB_append _ _ _ _ (by simp; omega)]
    rfl
  · by_cases e : i < us.length
    · rw [List.getElem_append_left e]
      refine own_block (own_below (h4 i hi e) hb1) (fun j ej => hblk j ?_)
      have := h6 _ (List.getElem_mem e) j ej
      omega
    · obtain rfl : i = k := by simp at hi'; omega
      rw [List.getElem_append_right (by omega)]
      simp only [h2, Nat.sub_self, List.getElem_cons_zero]
      refine own_lo (own_block ho (fun j ej => hblk j ?_)) (fun j ej => ?_)
      · have : g = j := by simpa [Value.ownBlock] using ej
        omega
      · have : g = j := by simpa [Value.ownBlock] using ej
        omega
  · rw [List.filterMap_append, List.nodup_append]
    refine ⟨h5, by simp [Value.ownBlock], fun a ha b hb => ?_⟩
    obtain ⟨u, hu, e⟩ := List.mem_filterMap.1 ha
    have := h6 u hu a e
    simp [Value.ownBlock] at hb
    omega
  · have hs2 : ((w1.setCell ⟨w.heap.size, k * 2, none⟩ (.int .i64 s[k].v)).setCell ⟨w.heap.size, k * 2 + 1, none⟩ (.slice (some ⟨g, 0, none⟩) s[k].t.length s[k].t.length)).heap.size = w1.heap.size := by simp
    rw [hs2]
    have := hb1.size
    rcases List.mem_append.1 hu with hu | hu
    · have := h6 u hu j e
      omega
    · simp at hu
      subst hu
      have : g = j := by simpa [Value.ownBlock] using e
      omega
  · exact ((h7.trans (hb1.mono (by omega))).setCell (p := ⟨w.heap.size, _, none⟩) (Nat.le_refl _) _).setCell (p := ⟨w.heap.size, _, none⟩) (Nat.le_refl _) _

theorem toB_end {w wr : World} {s : List B} (hT : ToB w s s.length wr) : OwnB wr w.heap.size wr.heap.size (.slice (some ⟨w.heap.size, 0, none⟩) s.length s.length) s ∧ Below w.heap.size w wr := by
  obtain ⟨xs, us, h1, h2, h3, h4, h5, h6, h7⟩ := hT
  have hl := h1.1
  have hlt : w.heap.size < wr.heap.size := (h1.lt _ rfl).2
  rw [List.take_of_length_le (by omega), List.take_of_length_le (by omega)] at h3
  refine ⟨⟨us, h2, by rw [← h3]; exact h1, h4, h5, fun u hu k e => (h6 u hu k e).2, fun k e => ?_⟩, h7⟩
  have : w.heap.size = k := by simpa [Value.ownBlock] using e
  omega

set_option maxRecDepth 100000 in
set_option maxHeartbeats 1000000 in
theorem toSubBindS_some (b off cap : Nat) (s : List B) (w : World) (hm : s.length ≤ 1048576) (hm2 : ∀ x ∈ s, x.t.length ≤ 1048576) (hA : AtB w b off s) :
    Calls Try.prog 92 #[.slice (some ⟨b, off, none⟩) s.length cap] w fun e w' => e = .returned (.slice (some ⟨w.heap.size, 0, none⟩) s.length s.length) ∧ OwnB w' w.heap.size w'.heap.size (.slice (some ⟨w.heap.size, 0, none⟩) s.length s.length) s ∧ Below w.heap.size w w' := by
  obtain ⟨i0, hi, hz0, hz1, hz2⟩ := info_parts Try.infoSub
  have hbytes : i0.bytes * s.length ≤ 281474976710656 := by rw [hz2]; omega
  go_enter Try.func92, Try.ntmps92
  go_wp2_with (at_make; refine wpList_make_full _ rfl _ _ 39 rfl w.heap.size 172 i0 _ 2 Try.underlying39 hi hz0 hz1 .i64 .i64 _ _ s.length rfl rfl rfl rfl hbytes (by unfold maxLen; omega) (Nat.le_refl _) ?_; intro w0 hown0 hgr0)
  have hB0 : Below w.heap.size w w0 := (Below.refl _ _).grown hgr0 (Nat.le_refl _) (fun k e => by cases e)
  go_loopw [4] (fun i wr => ∃ (k : Nat), k ≤ s.length ∧ i = .int .i64 k ∧ ToB w s k wr) (fun i _ => s.length - (intOf i).toNat)
  case atStart => exact ⟨0, Nat.zero_le _, rfl, _, [], hown0, rfl, by simp [flatB], fun i h h' => by simp at h', by simp, by simp, hB0⟩
  case round =>
    obtain ⟨k, hk, rfl, hT⟩ := hrel
    have hB : Below w.heap.size w wr := by obtain ⟨_, _, _, _, _, _, _, _, h⟩ := hT; exact h
    have HT := hide hT
    clear hT hown0 hgr0 hB0
    by_cases hlt : k < s.length
    · obtain ⟨c0, ao, cp, c1, hc, hcm, hR⟩ := (hA.below hB) k hlt
      have hml := hm2 _ (List.getElem_mem hlt)
      have HR : Hid (∀ {w1 : World} {g : Nat}, Below wr.heap.size wr w1 → g < w1.heap.size → w1.ownsRow wr.heap.size 98 3 (.slice (some ⟨g, 0, none⟩) s[k].t.length s[k].t.length) s[k].t.length (flat s[k].t) → _) := fun q1 q2 q3 => toB_round hlt (unhide HT) q1 q2 q3
      obtain ⟨y, hy⟩ : ∃ y, y = s[k] := ⟨_, rfl⟩
      rw [← hy] at c0 c1 hR hc hml HR
      clear hy
      have HC := hide hc
      have HCM := hide hcm
      clear hc hcm
      go_wp2_with fail
      refine (toSubBind_any y.v ao cp y.t _ hml hR).mono ?_
      rintro e w1 ⟨g, rfl, hgl, ho, hb1⟩
      clear c0 c1
      obtain ⟨⟨u0, u1, d0, d1⟩, ⟨f0, f1⟩, R⟩ := unhide HR hb1 hgl ho
      have HRR := hide R
      clear R HR ho
      go_wp2
      go_roundw
      case rel => exact ⟨k + 1, by omega, by go_num, unhide HRR⟩
      case measure => simp [intOf]; omega
    · have e : k = s.length := by omega
      subst e
      go_wp2
      go_ret
      exact ⟨rfl, toB_end (unhide HT)⟩

set_option maxRecDepth 100000 in
set_option maxHeartbeats 1000000 in
theorem toSubBindS_none (ao : Option Addr) (cap : Nat) (w : World) :
    Calls Try.prog 92 #[.slice ao 0 cap] w fun e w' => e = .returned (.slice (some ⟨w.heap.size, 0, none⟩) 0 0) ∧ OwnB w' w.heap.size w'.heap.size (.slice (some ⟨w.heap.size, 0, none⟩) 0 0) [] ∧ Below w.heap.size w w' := by
  obtain ⟨i0, hi, hz0, hz1, hz2⟩ := info_parts Try.infoSub
  go_enter Try.func92, Try.ntmps92
  go_wp2_with (at_make; refine wpList_make_full _ rfl _ _ 39 rfl w.heap.size 172 i0 _ 2 Try.underlying39 hi hz0 hz1 .i64 .i64 _ _ 0 rfl rfl rfl rfl (by simp) (by unfold maxLen; omega) (Nat.le_refl _) ?_; intro w0 hown0 hgr0)
  have hB0 : Below w.heap.size w w0 := (Below.refl _ _).grown hgr0 (Nat.le_refl _) (fun k e => by cases e)
  refine wp_loop_rounds 1 ?_
  rw [rounds_succ]
  go_wp2
  go_ret
  refine ⟨rfl, ?_⟩
  exact toB_end (s := []) ⟨_, [], hown0, rfl, by simp [flatB], fun i h h' => by simp at h', by simp, by simp, hB0⟩

/-- Bindings copied into new memory. -/
theorem toSubBindS_any (ao : Option Addr) (cap : Nat) (s : List B) (w : World) (hm : s.length ≤ 1048576) (hm2 : ∀ x ∈ s, x.t.length ≤ 1048576) (hA : RowB w ao s) :
    Calls Try.prog 92 #[.slice ao s.length cap] w fun e w' => e = .returned (.slice (some ⟨w.heap.size, 0, none⟩) s.length s.length) ∧ OwnB w' w.heap.size w'.heap.size (.slice (some ⟨w.heap.size, 0, none⟩) s.length s.length) s ∧ Below w.heap.size w w' := by
  rcases hA with rfl | ⟨b, off, rfl, hA⟩
  · exact toSubBindS_none ao cap w
  · exact toSubBindS_some b off cap s w hm hm2 hA

set_option maxRecDepth 100000 in
set_option maxHeartbeats 400000 in
theorem eqSubBind_yes (v : Int) (ao bo : Option Addr) (cap cap' : Nat) (t : List C) (w : World) (hm : t.length ≤ maxLen) (hA : Row w ao t) (hU : Row w bo t) :
    Calls Try.prog 122 #[.agg #[.int .i64 v, .slice ao t.length cap], .agg #[.int .i64 v, .slice bo t.length cap']] w fun e w' => e = .returned (.bool true) ∧ Below w.heap.size w w' := by
  have hne : (v != v) = false := by simp
  go_enter Try.func122, Try.ntmps122
  go_wp2_with fail
  refine (eqTrmCellS_any ao bo cap cap' t t _ hm (hA.below (below2 _ _ _)) (hU.below (below2 _ _ _))).mono ?_
  rw [sameS_yes rfl]
  rintro e w1 ⟨rfl, hb1⟩
  have hB := bstep (below2 _ _ _) hb1
  go_wp2
  go_ret
  exact ⟨rfl, hB⟩

set_option maxRecDepth 100000 in
set_option maxHeartbeats 1000000 in
theorem eqSubBindS_some (b off cap b' off' cap' : Nat) (s : List B) (w : World) (hm : s.length ≤ maxLen) (hA : AtB w b off s) (hU : AtB w b' off' s) :
    Calls Try.prog 63 #[.slice (some ⟨b, off, none⟩) s.length cap, .slice (some ⟨b', off', none⟩) s.length cap'] w fun e w' => e = .returned (.bool true) ∧ Below w.heap.size w w' := by
  unfold maxLen at hm
  have hne : ((s.length : Int) != (s.length : Int)) = false := by simp
  go_enter Try.func63, Try.ntmps63
  go_wp2
  go_loopw [5] (fun i wr => ∃ (k : Nat), k ≤ s.length ∧ i = .int .i64 k ∧ Below w.heap.size w wr) (fun i _ => s.length - (intOf i).toNat)
  case atStart => exact ⟨0, Nat.zero_le _, rfl, Below.refl _ _⟩
  case round =>
    obtain ⟨k, hk, rfl, hB⟩ := hrel
    by_cases hlt : k < s.length
    · obtain ⟨c0, ao, cp, c1, hc, hcm, hR⟩ := (hA.below hB) k hlt
      obtain ⟨d0, bo, cp', d1, hc', hcm', hR'⟩ := (hU.below hB) k hlt
      obtain ⟨y, hy⟩ : ∃ y, y = s[k] := ⟨_, rfl⟩
      rw [← hy] at c0 c1 d0 d1 hR hR' hc
      clear hy
      have hml : y.t.length ≤ maxLen := by omega
      clear hc hcm hc' hcm'
      have HR := hide hR
      have HR' := hide hR'
      clear hR hR'
      go_wp2
      go_region_with (go_at_call 122; refine (eqSubBind_yes y.v ao bo cp cp' y.t _ hml (by exact unhide HR) (by exact unhide HR')).mono ?_; rintro e w1 ⟨rfl, hb1⟩)
      all_goals go_wp2
      all_goals go_roundw
      all_goals first | exact ⟨k + 1, by omega, by go_num, bstep hB.drew (by assumption)⟩ | (simp [intOf]; omega)
    · go_wp2
      go_ret
      exact ⟨rfl, hB⟩

set_option maxRecDepth 100000 in
set_option maxHeartbeats 400000 in
theorem eqSubBindS_none (ao bo : Option Addr) (cap cap' : Nat) (w : World) :
    Calls Try.prog 63 #[.slice ao 0 cap, .slice bo 0 cap'] w fun e w' => e = .returned (.bool true) ∧ Below w.heap.size w w' := by
  go_enter Try.func63, Try.ntmps63
  go_wp2
  refine wp_loop_rounds 1 ?_
  rw [rounds_succ]
  go_wp2
  go_ret
  exact ⟨rfl, Below.refl _ _⟩

theorem eqSubBindS_yes (ao bo : Option Addr) (cap cap' : Nat) (s : List B) (w : World) (hm : s.length ≤ maxLen) (hA : RowB w ao s) (hU : RowB w bo s) :
    Calls Try.prog 63 #[.slice ao s.length cap, .slice bo s.length cap'] w fun e w' => e = .returned (.bool true) ∧ Below w.heap.size w w' := by
  rcases hA with rfl | ⟨b, off, rfl, hA⟩
  · exact eqSubBindS_none ao bo cap cap' w
  · rcases hU with rfl | ⟨b', off', rfl, hU⟩
    · exact eqSubBindS_none _ bo cap cap' w
    · exact eqSubBindS_some b off cap b' off' cap' s w hm hA hU
end Go.Proofs.Ytkedckmpjedjoaa
