/- The walk of bindingsOf, and of the program's SubOk. -/
import Derived.Test.YtonpahhcfgdeoaaQRG2
import Derived.Test.YtonpahhcfgdeoaaQW7W18T5BR1BG1
namespace Go.Proofs.Ytonpahhcfgdeoaa
open Go.RowKit Go.Maps
set_option linter.unusedVariables false
set_option linter.unusedSimpArgs false

theorem Bnd.fresh {lo P : Nat} {W0 W : World} {S : Nat → Prop} {s : List B} (h : Bnd lo W0 P S s) (hb : Below W0.heap.size W0 W) (hlo : lo ≤ W0.heap.size) : Bnd lo W P (fun b => S b ∨ (W0.heap.size ≤ b ∧ b < W.heap.size)) s := by
  have h' := h.below hb
  obtain ⟨ov, M, n, D, rs, h1, h2, h3, h4, h5, h6, h7, h9, h10⟩ := h
  have hs := hb.size
  refine ⟨ov, M, n, D, rs, (hb.block P h1.lt).trans h1, h2, h3, h4.below hb, h5.kept (row := none) ⟨hb.os, hb.tape, hb.output, hb.size, fun j hj _ => hb.block j hj⟩ (by simp), h6, h7, fun i hi hi' => (h9 i hi hi').kept (fun _ h => .inl h) (fun b hb' => hb.block b (h10 b hb').2.1), fun b hb' => ?_⟩
  rcases hb' with hb' | hb'
  · have := h10 b hb'
    exact ⟨this.1, by omega, this.2.2⟩
  · have hP := h1.lt
    have hM := h5.lt
    refine ⟨by omega, hb'.2, by omega, by omega, fun e => ?_⟩
    have := (h4.1.lt b e.symm).2
    omega

theorem tre_fuel {S : Nat → Prop} {W : World} : ∀ {f g p : Nat} {z : List (Nat × C)}, Tre S W f p z → f ≤ g → Tre S W g p z
  | f + 1, g + 1, p, z, ⟨c, ks, ao, cap, e, hp, hl, hn, hr, hs⟩, h => ⟨c, ks, ao, cap, e, hp, hl, hn, hr, fun k hk => tre_fuel (hs k hk) (by omega)⟩

/-- All bindings up to k are ok but for rings. -/
def Fine (s : List B) (k : Nat) : Prop := ∀ j, (h : j < s.length) → j < k → (0 ≤ s[j].v ∧ s[j].v ≤ 99999) ∧ trm s[j].t = true ∧ s[j].v ∉ (s.take j).map (·.v)

theorem fine_step {s : List B} {k : Nat} (h : Fine s k) (hk : k < s.length) (h1 : 0 ≤ s[k].v ∧ s[k].v ≤ 99999) (h2 : trm s[k].t = true) (h3 : s[k].v ∉ (s.take k).map (·.v)) : Fine s (k + 1) := fun j hj hjk => by
  by_cases e : j = k
  · subst e; exact ⟨h1, h2, h3⟩
  · exact h j hj (by omega)

theorem mem_take {s : List B} {k : Nat} {v : Int} (hk : k ≤ s.length) : v ∈ (s.take k).map (·.v) ↔ ∃ j, ∃ h : j < s.length, j < k ∧ s[j].v = v := by
  rw [List.mem_map]
  constructor
  · rintro ⟨x, hx, rfl⟩
    obtain ⟨j, hj, rfl⟩ := List.getElem_of_mem hx
    have hj2 := hj
    rw [List.length_take] at hj2
    exact ⟨j, by omega, by omega, by simp⟩
  · rintro ⟨j, hj, hjk, rfl⟩
    exact ⟨s[j], List.mem_take_iff_getElem.2 ⟨j, by omega, rfl⟩, rfl⟩

theorem fine_once : ∀ {s : List B} (k : Nat), Fine s k → k ≤ s.length → Once (s.take k)
  | s, 0, _, _ => by simp [Once]
  | s, k + 1, h, hk => by
      have ih := fine_once k (fun j hj hjk => h j hj (by omega)) (by omega)
      have hk' : k < s.length := by omega
      unfold Once at ih ⊢
      rw [List.take_succ_eq_append_getElem hk', List.map_append, List.nodup_append]
      exact ⟨ih, by simp, fun a ha b hb => by
        simp at hb
        subst hb
        intro e
        subst e
        exact (h k hk' (by omega)).2.2 ha⟩

theorem fine_no {s : List B} {k : Nat} (hk : k < s.length) (h : ¬ ((0 ≤ s[k].v ∧ s[k].v ≤ 99999) ∧ trm s[k].t = true ∧ s[k].v ∉ (s.take k).map (·.v))) : subOk s = false :=
  subOk_no hk (fun ho => h ⟨ho.1, ho.2.1, fun hm => by
    obtain ⟨j, hj, hjk, e⟩ := (mem_take (by omega)).1 hm
    exact ho.2.2.2 j hj hjk e⟩)

theorem fine_yes {s : List B} {ρ : Int → Nat} (h : Fine s s.length) (hr : Ranked s ρ) : subOk s = true := by
  have ho : Once s := by have := fine_once s.length h (Nat.le_refl _); rwa [List.take_length] at this
  refine subOk_yes (fun k hk => ⟨(h k hk hk).1, (h k hk hk).2.1, fun hre => ?_, fun j hj hjk e => (h k hk hk).2.2 ((mem_take (by omega)).2 ⟨j, hj, hjk, e⟩)⟩)
  have hg := getB_of ho (List.getElem_mem hk)
  have hne : getB s s[k].v ≠ [] := by
    rw [hg]; intro e
    have := (h k hk hk).2.1
    rw [e, trm_nil] at this
    cases this
  rw [← hg] at hre
  exact ranked_noRing hr _ hne hre

theorem fine_ring {s : List B} (h : Fine s s.length) (hr : ¬ NoRing s) : subOk s = false := by
  unfold subOk
  rw [decide_eq_false_iff_not]
  intro ha
  apply hr
  intro v hv hre
  obtain ⟨x, hx, e1, e2⟩ := getB_mem hv
  obtain ⟨k, hk, rfl⟩ := List.getElem_of_mem hx
  rw [← e2, ← e1] at hre
  exact (ha k hk).2.2.1 hre

/-- What bindingsOf tells. -/
def BOut (s : List B) (w : World) (e : Ending) (w' : World) : Prop :=
  (subOk s = true ∧ ∃ P S, e = .returned (.pointer (some ⟨P, 0, none⟩)) ∧ Bnd w.heap.size w' P S s ∧ Below w.heap.size w w') ∨ (subOk s = false ∧ e = .returned (.pointer none) ∧ Below w.heap.size w w')

/-- How far bindingsOf has come. -/
def BAt (s : List B) (w : World) (k : Nat) (wr : World) : Prop := Fine s k ∧ (∃ S, Bnd w.heap.size wr (w.heap.size + 1) S (s.take k)) ∧ Below w.heap.size w wr

set_option maxRecDepth 100000 in
set_option maxHeartbeats 4000000 in
theorem bindingsOf_some (b off cap : Nat) (s : List B) (w : World) (hs : s.length ≤ 1048576) (hst : tot s ≤ 1048576) (hA : AtB w b off s) (hF : FitB s) :
    Calls Try.prog 67 #[.slice (some ⟨b, off, none⟩) s.length cap] w (BOut s w) := by
  have hmm := @run_makeMap Try.prog
  have hB0 : Below w.heap.size w ((w.alloc (.map #[] 0)).alloc (.cells #[.slice none 0 0, .map (some w.heap.size)] 132)) := ((Below.refl _ w).alloc (Nat.le_refl _) _).alloc (by simp) _
  have hN0 : Bnd w.heap.size ((w.alloc (.map #[] 0)).alloc (.cells #[.slice none 0 0, .map (some w.heap.size)] 132)) (w.heap.size + 1) (fun _ => False) [] := by
    refine ⟨.slice none 0 0, w.heap.size, 0, .map [], [], ?_, by omega, Nat.le_refl _, ⟨World.ownsRow_nil _ _ _ _, rfl⟩, World.ownsMap.alloc (World.ownsMap_made w Try.prog 3 (plainElem Try.prog 3)) _, Nat.le_refl _, tabL_nil, fun i h => by simp at h, fun b h => h.elim⟩
    have := World.alloc_heap_new (w.alloc (.map #[] 0)) (.cells #[.slice none 0 0, .map (some w.heap.size)] 132)
    rw [World.size_alloc] at this
    exact this
  go_enter Try.func67, Try.ntmps67
  go_wp2
  go_loopw [12] (fun i wr => ∃ (k : Nat), k ≤ s.length ∧ i = .int .i64 k ∧ BAt s w k wr) (fun i _ => s.length - (intOf i).toNat)
  case atStart => exact ⟨0, Nat.zero_le _, rfl, fun j _ h => absurd h (Nat.not_lt_zero _), ⟨_, by simpa using hN0⟩, hB0⟩
  case round =>
    clear hN0 hB0
    obtain ⟨k, hk, rfl, hfine, ⟨S, hN⟩, hB⟩ := hrel
    have HFI := hide hfine
    clear hfine
    by_cases hlt : k < s.length
    · obtain ⟨c0, ao, cp, c1, hc, hcm, hR⟩ := (hA.below hB) k hlt
      have hf := (hF _ (List.getElem_mem hlt))
      have HNO := hide (fine_no hlt)
      have HSTEP := hide (fine_step (unhide HFI) hlt)
      have HTK : Hid (s.take (k + 1) = s.take k ++ [s[k]]) := List.take_succ_eq_append_getElem hlt
      have hsl := hB.size
      obtain ⟨y, hy⟩ : ∃ y, y = s[k] := ⟨_, rfl⟩
      rw [← hy] at c0 c1 hR hf HNO HSTEP HTK hc
      clear hy
      have HF := hide hf
      have HC := hide hc
      have HCM := hide hcm
      have hRa : Row (wr.alloc (.cells #[.int .i64 y.v, .slice ao y.t.length cp] 124)) ao y.t := hR.below (cell_below _ _)
      have hNa := hN.below (cell_below wr (.cells #[.int .i64 y.v, .slice ao y.t.length cp] 124))
      have hBa : Below w.heap.size w (wr.alloc (.cells #[.int .i64 y.v, .slice ao y.t.length cp] 124)) := hB.alloc hB.size _
      have v0 : (wr.alloc (.cells #[.int .i64 y.v, .slice ao y.t.length cp] 124)).cell? ⟨wr.heap.size, 0, none⟩ = some (.int .i64 y.v) := by simp [go_sem]
      have hsa : (wr.alloc (.cells #[.int .i64 y.v, .slice ao y.t.length cp] 124)).heap.size = wr.heap.size + 1 := by simp
      clear hN hR hc hcm hf
      go_wp2_with fail
      generalize (wr.alloc (.cells #[.int .i64 y.v, .slice ao y.t.length cp] 124)) = W3 at hRa hNa hBa v0 hsa ⊢
      clear c0 c1
      cases hy : trm y.t with
      | false =>
        refine (treeOf_no ao cp y.t _ (Nat.le_trans (unhide HC) (unhide HCM)) hRa (unhide HF).1 hy).mono ?_
        rintro e W4 ⟨rfl, hb4⟩
        have HE := hide (unhide HNO (fun h => by rw [hy] at h; cases h.2.1))
        have hB4 := bstep hBa hb4
        clear hNa hRa hy
        go_wp2
        go_ret
        exact .inr ⟨unhide HE, rfl, hB4⟩
      | true =>
        have HLEN := hide (trm_len hy).2
        have HY := hide hy
        refine (treeOf_yes W3.heap.size ao cp y.t _ (unhide HC) (unhide HCM) (Nat.le_refl _) hRa (unhide HF).1 hy).mono ?_
        rintro e W4 ⟨p, z, rfl, hz, hnd, hTre, hb4⟩
        have hB4 := bstep hBa hb4
        have v4 := (hb4.cell (p := ⟨wr.heap.size, 0, none⟩) (by simp; omega)).trans v0
        have hN4 := hNa.fresh hb4 hBa.size
        have hTA : TreeAt (fun b => S b ∨ (W3.heap.size ≤ b ∧ b < W4.heap.size)) W4 p y.t := ⟨z, Tre.kept (f := 40) (fun b h => .inr h) (fun b _ => rfl) (tre_fuel hTre (unhide HLEN)), hz⟩
        have HTA := hide hTA
        clear hTA hTre hz hnd hNa hRa hy v0
        by_cases h1 : y.v < 0
        · have HE := hide (unhide HNO (fun h => by omega))
          have h1b : decide (y.v < 0) = true := by simpa using h1
          go_wp2
          go_ret
          exact .inr ⟨unhide HE, rfl, hB4⟩
        have h1b : decide (y.v < 0) = false := by simpa using h1
        by_cases h2 : 99999 < y.v
        · have HE := hide (unhide HNO (fun h => by omega))
          have h2b : decide (y.v > 99999) = true := by simpa using h2
          go_wp2
          go_ret
          exact .inr ⟨unhide HE, rfl, hB4⟩
        have h2b : decide (y.v > 99999) = false := by simpa using h2
        have hwv : (Lit.int .i64 y.v).wf = true := WalkArith.wf_i64 (by omega)
        have HGE := hide (get_any w.heap.size (w.heap.size + 1) _ (s.take k) y.v W4 (by simp; omega) hN4 hwv)
        by_cases hg0 : getB (s.take k) y.v = []
        · have hnew : y.v ∉ (s.take k).map (·.v) := fun hm => by
            obtain ⟨x, hx, e⟩ := List.mem_map.1 hm
            have ho := fine_once k (unhide HFI) hk
            have hgx := getB_of ho hx
            rw [e, hg0] at hgx
            obtain ⟨j, hj, rfl⟩ := List.getElem_of_mem hx
            have hj2 := hj
            rw [List.length_take] at hj2
            have := (unhide HFI j (by omega) (by omega)).2.1
            simp at hgx
            rw [hgx, trm_nil] at this
            cases this
          have HNEXT := hide (unhide HSTEP ⟨by omega, by omega⟩ (unhide HY) hnew)
          have HNW := hide hnew
          have HN4 := hide hN4
          have HG0 := hide hg0
          clear hg0 hnew hN4
          go_wp2_with fail
          refine (unhide HGE).mono ?_
          rintro e W4' ⟨rfl, hgo⟩
          obtain rfl : e = .returned (.pointer none) := by
            rcases hgo with h | h
            · exact h.2
            · exact absurd (unhide HG0) h.1
          clear hgo HGE
          go_wp2_with fail
          refine (add_any w.heap.size (w.heap.size + 1) p _ (s.take k) y W4' (by simp; omega) (unhide HN4) hB4.size (unhide HNW) hwv (unhide HTA)).mono ?_
          rintro e W5 ⟨⟨rv, rfl⟩, hN5, hb5, _⟩
          have hB5 : Below w.heap.size w W5 := hB4.trans hb5
          rw [← unhide HTK] at hN5
          clear v4
          go_wp2
          go_roundw
          case rel => exact ⟨k + 1, by omega, by go_num, unhide HNEXT, ⟨_, hN5⟩, hB5⟩
          case measure => simp [intOf]; omega
        · have hold : y.v ∈ (s.take k).map (·.v) := by
            obtain ⟨x, hx, e, _⟩ := getB_mem hg0
            exact List.mem_map.2 ⟨x, hx, e⟩
          have HE := hide (unhide HNO (fun h => h.2.2 hold))
          have HG0 := hide hg0
          clear hold hg0
          go_wp2_with fail
          refine (unhide HGE).mono ?_
          rintro e W4' ⟨rfl, hgo⟩
          obtain ⟨pd, rfl⟩ : ∃ pd, e = .returned (.pointer (some ⟨pd, 0, none⟩)) := by
            rcases hgo with h | ⟨_, pd, h, _⟩
            · exact absurd h.1 (unhide HG0)
            · exact ⟨pd, h⟩
          clear hgo HGE
          go_wp2
          go_ret
          exact .inr ⟨unhide HE, rfl, hB4⟩
    · have e : k = s.length := by omega
      subst e
      rw [List.take_length] at hN
      have hfi := unhide HFI
      have ho : Once s := by have := fine_once s.length hfi (Nat.le_refl _); rwa [List.take_length] at this
      have HRY : Hid (¬ NoRing s → subOk s = false) := fine_ring hfi
      have HRN : Hid (∀ ρ, Ranked s ρ → subOk s = true) := fun ρ h => fine_yes hfi h
      have HR := hide (ring_any w.heap.size (w.heap.size + 1) S s wr hs hN (fun x hx => by obtain ⟨j, hj, rfl⟩ := List.getElem_of_mem hx; exact (hfi j hj hj).1) (fun x hx => by obtain ⟨j, hj, rfl⟩ := List.getElem_of_mem hx; exact (hfi j hj hj).2.1) ho)
      have HN := hide hN
      clear hfi ho hN HFI
      go_wp2_with fail
      refine (unhide HR).mono ?_
      clear HR
      rintro e W1 ⟨r, rfl, hr1, hr2, hb1⟩
      have hB1 := bstep hB hb1
      cases r with
      | true =>
        have HE := hide (unhide HRY (hr1 rfl))
        clear hr1 hr2
        go_wp2
        go_ret
        exact .inr ⟨unhide HE, rfl, hB1⟩
      | false =>
        obtain ⟨ρ, hρ⟩ := hr2 rfl
        have HE := hide (unhide HRN ρ hρ)
        clear hr1 hr2 hρ
        go_wp2
        go_ret
        exact .inl ⟨unhide HE, _, S, rfl, (unhide HN).below hb1, hB1⟩

set_option maxRecDepth 100000 in
set_option maxHeartbeats 1000000 in
theorem bindingsOf_none (ao : Option Addr) (cap : Nat) (w : World) :
    Calls Try.prog 67 #[.slice ao 0 cap] w (BOut [] w) := by
  have hmm := @run_makeMap Try.prog
  have hB0 : Below w.heap.size w ((w.alloc (.map #[] 0)).alloc (.cells #[.slice none 0 0, .map (some w.heap.size)] 132)) := ((Below.refl _ w).alloc (Nat.le_refl _) _).alloc (by simp) _
  have hN0 : Bnd w.heap.size ((w.alloc (.map #[] 0)).alloc (.cells #[.slice none 0 0, .map (some w.heap.size)] 132)) (w.heap.size + 1) (fun _ => False) [] := by
    refine ⟨.slice none 0 0, w.heap.size, 0, .map [], [], ?_, by omega, Nat.le_refl _, ⟨World.ownsRow_nil _ _ _ _, rfl⟩, World.ownsMap.alloc (World.ownsMap_made w Try.prog 3 (plainElem Try.prog 3)) _, Nat.le_refl _, tabL_nil, fun i h => by simp at h, fun b h => h.elim⟩
    have := World.alloc_heap_new (w.alloc (.map #[] 0)) (.cells #[.slice none 0 0, .map (some w.heap.size)] 132)
    rw [World.size_alloc] at this
    exact this
  have HR := hide (ring_any w.heap.size (w.heap.size + 1) (fun _ => False) [] _ (by simp) hN0 (by simp) (by simp) (by simp [Once]))
  have HOK := hide (subOk_yes (s := []) (fun j hj => by simp at hj))
  have HNR : Hid (NoRing []) := fun v hv => absurd rfl hv
  go_enter Try.func67, Try.ntmps67
  go_wp2
  refine wp_loop_rounds 1 ?_
  rw [rounds_succ]
  go_wp2_with fail
  refine (unhide HR).mono ?_
  clear HR
  rintro e W1 ⟨r, rfl, hr1, hr2, hb1⟩
  have hB1 := bstep hB0 hb1
  cases r with
  | true => exact absurd (unhide HNR) (hr1 rfl)
  | false =>
    clear hr1 hr2
    have HN := hide (hN0.below hb1)
    clear hN0
    go_wp2
    go_ret
    exact .inl ⟨unhide HOK, _, _, rfl, unhide HN, hB1⟩

/-- The program's bindingsOf. -/
theorem bindingsOf_any (ao : Option Addr) (cap : Nat) (s : List B) (w : World) (hs : s.length ≤ 1048576) (hst : tot s ≤ 1048576) (hA : RowB w ao s) (hF : FitB s) :
    Calls Try.prog 67 #[.slice ao s.length cap] w (BOut s w) := by
  rcases hA with rfl | ⟨b, off, rfl, hA⟩
  · exact bindingsOf_none ao cap w
  · exact bindingsOf_some b off cap s w hs hst hA hF

end Go.Proofs.Ytonpahhcfgdeoaa
