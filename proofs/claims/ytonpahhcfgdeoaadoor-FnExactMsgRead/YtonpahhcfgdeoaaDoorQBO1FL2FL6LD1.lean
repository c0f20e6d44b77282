import Derived.Test.YtonpahhcfgdeoaaDoorQRG1RG2
import Derived.Test.YtonpahhcfgdeoaaDoorQW18T5BR1BG1
import Derived.Test.YtonpahhcfgdeoaaDoorQPB2PB3
import Derived.Deep.LoopGhost
import Derived.Test.YtonpahhcfgdeoaaDoorQPB4PB5SB2SB3
/- The walk of bindingsOf, and of the program's SubOk. -/
namespace Go.Proofs.YtonpahhcfgdeoaaDoor
open Go.RowKit Go.Maps
set_option linter.unusedVariables false
set_option linter.unusedSimpArgs false

theorem Bnd.fresh {lo P : Nat} {W0 W : World} {S : Nat → Prop} {s : List B} (h : Bnd lo W0 P S s) (hb : Below W0.heap.size W0 W) (hlo : lo ≤ W0.heap.size) : Bnd lo W P (fun b => S b ∨ (W0.heap.size ≤ b ∧ b < W.heap.size)) s := by
  have h' := h.below hb
  obtain ⟨ov, M, n, D, rs, h1, h2, h3, h4, h5, h6, h7, h9, h10⟩ := h
  have hs := hb.size
  refine ⟨ov, M, n, D, rs, (hb.block P h1.lt).trans h1, h2, h3, h4.below hb, h5.kept (row := none) ⟨hb.os, hb.tape, hb.output, hb.size, fun j hj _ => hb.block j hj⟩ (by simp), h6, h7, fun i hi hi' => (h9 i hi hi').kept (fun _ h => .inl h) (fun b hb' => hb.block b (h10 b hb').2.1), fun b hb' => ?_⟩
  rcases hb' with hb' | hb'
  · have := h10 b hb'
    exact ⟨this.1, by omega, this.2.2⟩
  · have hP := h1.lt
    have hM := h5.lt
    refine ⟨by omega, hb'.2, by omega, by omega, fun e => ?_⟩
    have := (h4.1.lt b e.symm).2
    omega

theorem tre_fuel {S : Nat → Prop} {W : World} : ∀ {f g p : Nat} {z : List (Nat × C)}, Tre S W f p z → f ≤ g → Tre S W g p z
  | f + 1, g + 1, p, z, ⟨c, ks, ao, cap, e, hp, hl, hn, hr, hs⟩, h => ⟨c, ks, ao, cap, e, hp, hl, hn, hr, fun k hk => tre_fuel (hs k hk) (by omega)⟩

/-- All bindings up to k are ok but for rings. -/
def Fine (s : List B) (k : Nat) : Prop := ∀ j, (h : j < s.length) → j < k → (0 ≤ s[j].v ∧ s[j].v ≤ 99999) ∧ trm s[j].t = true ∧ s[j].v ∉ (s.take j).map (·.v)

theorem fine_step {s : List B} {k : Nat} (h : Fine s k) (hk : k < s.length) (h1 : 0 ≤ s[k].v ∧ s[k].v ≤ 99999) (h2 : trm s[k].t = true) (h3 : s[k].v ∉ (s.take k).map (·.v)) : Fine s (k + 1) := fun j hj hjk => by
  by_cases e : j = k
  · subst e; exact ⟨h1, h2, h3⟩
  · exact h j hj (by omega)

theorem mem_take {s : List B} {k : Nat} {v : Int} (hk : k ≤ s.length) : v ∈ (s.take k).map (·.v) ↔ ∃ j, ∃ h : j < s.length, j < k ∧ s[j].v = v := by
  rw [List.mem_map]
  constructor
  · rintro ⟨x, hx, rfl⟩
    obtain ⟨j, hj, rfl⟩ := List.getElem_of_mem hx
    have hj2 := hj
    rw [List.length_take] at hj2
    exact ⟨j, by omega, by omega, by simp⟩
  · rintro ⟨j, hj, hjk, rfl⟩
    exact ⟨s[j], List.mem_take_iff_getElem.2 ⟨j, by omega, rfl⟩, rfl⟩

theorem fine_once : ∀ {s : List B} (k : Nat), Fine s k → k ≤ s.length → Once (s.take k)
  | s, 0, _, _ => by simp [Once]
  | s, k + 1, h, hk => by
      have ih := fine_once k (fun j hj hjk => h j hj (by omega)) (by omega)
      have hk' : k < s.length := by omega
      unfold Once at ih ⊢
      rw [List.take_succ_eq_append_getElem hk', List.map_append, List.nodup_append]
      exact ⟨ih, by simp, fun a ha b hb => by
        simp at hb
        subst hb
        intro e
        subst e
        exact (h k hk' (by omega)).2.2 ha⟩

theorem fine_no {s : List B} {k : Nat} (hk : k < s.length) (h : ¬ ((0 ≤ s[k].v ∧ s[k].v ≤ 99999) ∧ trm s[k].t = true ∧ s[k].v ∉ (s.take k).map (·.v))) : subOk s = false :=
  subOk_no hk (fun ho => h ⟨ho.1, ho.2.1, fun hm => by
    obtain ⟨j, hj, hjk, e⟩ := (mem_take (by omega)).1 hm
    exact ho.2.2.2 j hj hjk e⟩)

theorem fine_yes {s : List B} {ρ : Int → Nat} (h : Fine s s.length) (hr : Ranked s ρ) : subOk s = true := by
  have ho : Once s := by have := fine_once s.length h (Nat.le_refl _); rwa [List.take_length] at this
  refine subOk_yes (fun k hk => ⟨(h k hk hk).1, (h k hk hk).2.1, fun hre => ?_, fun j hj hjk e => (h k hk hk).2.2 ((mem_take (by omega)).2 ⟨j, hj, hjk, e⟩)⟩)
  have hg := getB_of ho (List.getElem_mem hk)
  have hne : getB s s[k].v ≠ [] := by
    rw [hg]; intro e
    have := (h k hk hk).2.1
    rw [e, trm_nil] at this
    cases this
  rw [← hg] at hre
  exact ranked_noRing hr _ hne hre

theorem fine_ring {s : List B} (h : Fine s s.length) (hr : ¬ NoRing s) : subOk s = false := by
  unfold subOk
  rw [decide_eq_false_iff_not]
  intro ha
  apply hr
  intro v hv hre
  obtain ⟨x, hx, e1, e2⟩ := getB_mem hv
  obtain ⟨k, hk, rfl⟩ := List.getElem_of_mem hx
  rw [← e2, ← e1] at hre
  exact (ha k hk).2.2.1 hre

/-- What bindingsOf tells. -/
def BOut (s : List B) (w : World) (e : Ending) (w' : World) : Prop :=
  (subOk s = true ∧ ∃ P S, e = .returned (.pointer (some ⟨P, 0, none⟩)) ∧ Bnd w.heap.size w' P S s ∧ Below w.heap.size w w') ∨ (subOk s = false ∧ e = .returned (.pointer none) ∧ Below w.heap.size w w')

/-- How far bindingsOf has come. -/
def BAt (s : List B) (w : World) (k : Nat) (wr : World) : Prop := Fine s k ∧ (∃ S, Bnd w.heap.size wr (w.heap.size + 1) S (s.take k)) ∧ Below w.heap.size w wr

set_option maxRecDepth 100000 in
set_option maxHeartbeats 4000000 in
theorem bindingsOf_some (b off cap : Nat) (s : List B) (w : World) (hs : s.length ≤ 1048576) (hst : tot s ≤ 1048576) (hA : AtB w b off s) (hF : FitB s) :
    Calls Tryd.prog 80 #[.slice (some ⟨b, off, none⟩) s.length cap] w (BOut s w) := by
  have hmm := @run_makeMap Tryd.prog
  have hB0 : Below w.heap.size w ((w.alloc (.map #[] 0)).alloc (.cells #[.slice none 0 0, .map (some w.heap.size)] 121)) := ((Below.refl _ w).alloc (Nat.le_refl _) _).alloc (by simp) _
  have hN0 : Bnd w.heap.size ((w.alloc (.map #[] 0)).alloc (.cells #[.slice none 0 0, .map (some w.heap.size)] 121)) (w.heap.size + 1) (fun _ => False) [] := by
    refine ⟨.slice none 0 0, w.heap.size, 0, .map [], [], ?_, by omega, Nat.le_refl _, ⟨World.ownsRow_nil _ _ _ _, rfl⟩, World.ownsMap.alloc (World.ownsMap_made w Tryd.prog 3 (plainElem Tryd.prog 3)) _, Nat.le_refl _, tabL_nil, fun i h => by simp at h, fun b h => h.elim⟩
    have := World.alloc_heap_new (w.alloc (.map #[] 0)) (.cells #[.slice none 0 0, .map (some w.heap.size)] 121)
    rw [World.size_alloc] at this
    exact this
  go_enter Tryd.func80, Tryd.ntmps80
  go_wp2
  go_loopw [12] (fun i wr => ∃ (k : Nat), k ≤ s.length ∧ i = .int .i64 k ∧ BAt s w k wr) (fun i _ => s.length - (intOf i).toNat)
  case atStart => exact ⟨0, Nat.zero_le _, rfl, fun j _ h => absurd h (Nat.not_lt_zero _), ⟨_, by simpa using hN0⟩, hB0⟩
  case round =>
    clear hN0 hB0
    obtain ⟨k, hk, rfl, hfine, ⟨S, hN⟩, hB⟩ := hrel
    have HFI := hide hfine
    clear hfine
    by_cases hlt : k < s.length
    · obtain ⟨c0, ao, cp, c1, hc, hcm, hR⟩ := (hA.below hB) k hlt
      have hf := (hF _ (List.getElem_mem hlt))
      have HNO := hide (fine_no hlt)
      have HSTEP := hide (fine_step (unhide HFI) hlt)
      have HTK : Hid (s.take (k + 1) = s.take k ++ [s[k]]) := List.take_succ_eq_append_getElem hlt
      have hsl := hB.size
      obtain ⟨y, hy⟩ : ∃ y, y = s[k] := ⟨_, rfl⟩
      rw [← hy] at c0 c1 hR hf HNO HSTEP HTK hc
      clear hy
      have HF := hide hf
      have HC := hide hc
      have HCM := hide hcm
      have hRa : Row (wr.alloc (.cells #[.int .i64 y.v, .slice ao y.t.length cp] 110)) ao y.t := hR.below (cell_below _ _)
      have hNa := hN.below (cell_below wr (.cells #[.int .i64 y.v, .slice ao y.t.length cp] 110))
      have hBa : Below w.heap.size w (wr.alloc (.cells #[.int .i64 y.v, .slice ao y.t.length cp] 110)) := hB.alloc hB.size _
      have v0 : (wr.alloc (.cells #[.int .i64 y.v, .slice ao y.t.length cp] 110)).cell? ⟨wr.heap.size, 0, none⟩ = some (.int .i64 y.v) := by simp [go_sem]
      have hsa : (wr.alloc (.cells #[.int .i64 y.v, .slice ao y.t.length cp] 110)).heap.size = wr.heap.size + 1 := by simp
      clear hN hR hc hcm hf
      go_wp2_with fail
      generalize (wr.alloc (.cells #[.int .i64 y.v, .slice ao y.t.length cp] 110)) = W3 at hRa hNa hBa v0 hsa ⊢
      clear c0 c1
      cases hy : trm y.t with
      | false =>
        refine (treeOf_no ao cp y.t _ (Nat.le_trans (unhide HC) (unhide HCM)) hRa (unhide HF).1 hy).mono ?_
        rintro e W4 ⟨rfl, hb4⟩
        have HE := hide (unhide HNO (fun h => by rw [hy] at h; cases h.2.1))
        have hB4 := bstep hBa hb4
        clear hNa hRa hy
        go_wp2
        go_ret
        exact .inr ⟨unhide HE, rfl, hB4⟩
      | true =>
        have HLEN := hide (trm_len hy).2
        have HY := hide hy
        refine (treeOf_yes W3.heap.size ao cp y.t _ (unhide HC) (unhide HCM) (Nat.le_refl _) hRa (unhide HF).1 hy).mono ?_
        rintro e W4 ⟨p, z, rfl, hz, hnd, hTre, hb4⟩
        have hB4 := bstep hBa hb4
        have v4 := (hb4.cell (p := ⟨wr.heap.size, 0, none⟩) (by simp; omega)).trans v0
        have hN4 := hNa.fresh hb4 hBa.size
        have hTA : TreeAt (fun b => S b ∨ (W3.heap.size ≤ b ∧ b < W4.heap.size)) W4 p y.t := ⟨z, Tre.kept (f := 40) (fun b h => .inr h) (fun b _ => rfl) (tre_fuel hTre (unhide HLEN)), hz⟩
        have HTA := hide hTA
        clear hTA hTre hz hnd hNa hRa hy v0
        by_cases h1 : y.v < 0
        · have HE := hide (unhide HNO (fun h => by omega))
          have h1b : decide (y.v < 0) = true := by simpa using h1
          go_wp2
          go_ret
          exact .inr ⟨unhide HE, rfl, hB4⟩
        have h1b : decide (y.v < 0) = false := by simpa using h1
        by_cases h2 : 99999 < y.v
        · have HE := hide (unhide HNO (fun h => by omega))
          have h2b : decide (y.v > 99999) = true := by simpa using h2
          go_wp2
          go_ret
          exact .inr ⟨unhide HE, rfl, hB4⟩
        have h2b : decide (y.v > 99999) = false := by simpa using h2
        have hwv : (Lit.int .i64 y.v).wf = true := WalkArith.wf_i64 (by omega)
        have HGE := hide (get_any w.heap.size (w.heap.size + 1) _ (s.take k) y.v W4 (by simp; omega) hN4 hwv)
        by_cases hg0 : getB (s.take k) y.v = []
        · have hnew : y.v ∉ (s.take k).map (·.v) := fun hm => by
            obtain ⟨x, hx, e⟩ := List.mem_map.1 hm
            have ho := fine_once k (unhide HFI) hk
            have hgx := getB_of ho hx
            rw [e, hg0] at hgx
            obtain ⟨j, hj, rfl⟩ := List.getElem_of_mem hx
            have hj2 := hj
            rw [List.length_take] at hj2
            have := (unhide HFI j (by omega) (by omega)).2.1
            simp at hgx
            rw [hgx, trm_nil] at this
            cases this
          have HNEXT := hide (unhide HSTEP ⟨by omega, by omega⟩ (unhide HY) hnew)
          have HNW := hide hnew
          have HN4 := hide hN4
          have HG0 := hide hg0
          clear hg0 hnew hN4
          go_wp2_with fail
          refine (unhide HGE).mono ?_
          rintro e W4' ⟨rfl, hgo⟩
          obtain rfl : e = .returned (.pointer none) := by
            rcases hgo with h | h
            · exact h.2
            · exact absurd (unhide HG0) h.1
          clear hgo HGE
          go_wp2_with fail
          refine (add_any w.heap.size (w.heap.size + 1) p _ (s.take k) y W4' (by simp; omega) (unhide HN4) hB4.size (unhide HNW) hwv (unhide HTA)).mono ?_
          rintro e W5 ⟨⟨rv, rfl⟩, hN5, hb5, _⟩
          have hB5 : Below w.heap.size w W5 := hB4.trans hb5
          rw [← unhide HTK] at hN5
          clear v4
          go_wp2
          go_roundw
          case rel => exact ⟨k + 1, by omega, by go_num, unhide HNEXT, ⟨_, hN5⟩, hB5⟩
          case measure => simp [intOf]; omega
        · have hold : y.v ∈ (s.take k).map (·.v) := by
            obtain ⟨x, hx, e, _⟩ := getB_mem hg0
            exact List.mem_map.2 ⟨x, hx, e⟩
          have HE := hide (unhide HNO (fun h => h.2.2 hold))
          have HG0 := hide hg0
          clear hold hg0
          go_wp2_with fail
          refine (unhide HGE).mono ?_
          rintro e W4' ⟨rfl, hgo⟩
          obtain ⟨pd, rfl⟩ : ∃ pd, e = .returned (.pointer (some ⟨pd, 0, none⟩)) := by
            rcases hgo with h | ⟨_, pd, h, _⟩
            · exact absurd h.1 (unhide HG0)
            · exact ⟨pd, h⟩
          clear hgo HGE
          go_wp2
          go_ret
          exact .inr ⟨unhide HE, rfl, hB4⟩
    · have e : k = s.length := by omega
      subst e
      rw [List.take_length] at hN
      have hfi := unhide HFI
      have ho : Once s := by have := fine_once s.length hfi (Nat.le_refl _); rwa [List.take_length] at this
      have HRY : Hid (¬ NoRing s → subOk s = false) := fine_ring hfi
      have HRN : Hid (∀ ρ, Ranked s ρ → subOk s = true) := fun ρ h => fine_yes hfi h
      have HR := hide (ring_any w.heap.size (w.heap.size + 1) S s wr hs hN (fun x hx => by obtain ⟨j, hj, rfl⟩ := List.getElem_of_mem hx; exact (hfi j hj hj).1) (fun x hx => by obtain ⟨j, hj, rfl⟩ := List.getElem_of_mem hx; exact (hfi j hj hj).2.1) ho)
      have HN := hide hN
      clear hfi ho hN HFI
      go_wp2_with fail
      refine (unhide HR).mono ?_
      clear HR
      rintro e W1 ⟨r, rfl, hr1, hr2, hb1⟩
      have hB1 := bstep hB hb1
      cases r with
      | true =>
        have HE := hide (unhide HRY (hr1 rfl))
        clear hr1 hr2
        go_wp2
        go_ret
        exact .inr ⟨unhide HE, rfl, hB1⟩
      | false =>
        obtain ⟨ρ, hρ⟩ := hr2 rfl
        have HE := hide (unhide HRN ρ hρ)
        clear hr1 hr2 hρ
        go_wp2
        go_ret
        exact .inl ⟨unhide HE, _, S, rfl, (unhide HN).below hb1, hB1⟩

set_option maxRecDepth 100000 in
set_option maxHeartbeats 1000000 in
theorem bindingsOf_none (ao : Option Addr) (cap : Nat) (w : World) :
    Calls Tryd.prog 80 #[.slice ao 0 cap] w (BOut [] w) := by
  have hmm := @run_makeMap Tryd.prog
  have hB0 : Below w.heap.size w ((w.alloc (.map #[] 0)).alloc (.cells #[.slice none 0 0, .map (some w.heap.size)] 121)) := ((Below.refl _ w).alloc (Nat.le_refl _) _).alloc (by simp) _
  have hN0 : Bnd w.heap.size ((w.alloc (.map #[] 0)).alloc (.cells #[.slice none 0 0, .map (some w.heap.size)] 121)) (w.heap.size + 1) (fun _ => False) [] := by
    refine ⟨.slice none 0 0, w.heap.size, 0, .map [], [], ?_, by omega, Nat.le_refl _, ⟨World.ownsRow_nil _ _ _ _, rfl⟩, World.ownsMap.alloc (World.ownsMap_made w Tryd.prog 3 (plainElem Tryd.prog 3)) _, Nat.le_refl _, tabL_nil, fun i h => by simp at h, fun b h => h.elim⟩
    have := World.alloc_heap_new (w.alloc (.map #[] 0)) (.cells #[.slice none 0 0, .map (some w.heap.size)] 121)
    rw [World.size_alloc] at this
    exact this
  have HR := hide (ring_any w.heap.size (w.heap.size + 1) (fun _ => False) [] _ (by simp) hN0 (by simp) (by simp) (by simp [Once]))
  have HOK := hide (subOk_yes (s := []) (fun j hj => by simp at hj))
  have HNR : Hid (NoRing []) := fun v hv => absurd rfl hv
  go_enter Tryd.func80, Tryd.ntmps80
  go_wp2
  refine wp_loop_rounds 1 ?_
  rw [rounds_succ]
  go_wp2_with fail
  refine (unhide HR).mono ?_
  clear HR
  rintro e W1 ⟨r, rfl, hr1, hr2, hb1⟩
  have hB1 := bstep hB0 hb1
  cases r with
  | true => exact absurd (unhide HNR) (hr1 rfl)
  | false =>
    clear hr1 hr2
    have HN := hide (hN0.below hb1)
    clear hN0
    go_wp2
    go_ret
    exact .inl ⟨unhide HOK, _, _, rfl, unhide HN, hB1⟩

/-- The program's bindingsOf. -/
theorem bindingsOf_any (ao : Option Addr) (cap : Nat) (s : List B) (w : World) (hs : s.length ≤ 1048576) (hst : tot s ≤ 1048576) (hA : RowB w ao s) (hF : FitB s) :
    Calls Tryd.prog 80 #[.slice ao s.length cap] w (BOut s w) := by
  rcases hA with rfl | ⟨b, off, rfl, hA⟩
  · exact bindingsOf_none ao cap w
  · exact bindingsOf_some b off cap s w hs hst hA hF

end Go.Proofs.YtonpahhcfgdeoaaDoor

/- The walk of now: what stands for a tree. -/
namespace Go.Proofs.YtonpahhcfgdeoaaDoor
open Go.RowKit Go.Maps
set_option linter.unusedVariables false
set_option linter.unusedSimpArgs false

theorem TreeAt.top {S : Nat → Prop} {W : World} {p : Nat} {t : List C} (h : TreeAt S W p t) : ∃ c r v, t = c :: r ∧ Node W p c v := by
  obtain ⟨z, ⟨c, ks, ao, cap, e, _, _, hn, _⟩, rfl⟩ := h
  exact ⟨c, _, _, by rw [e]; rfl, hn⟩

/-- All cells of bound terms are ok. -/
def OkT (s : List B) : Prop := ∀ v, ∀ c ∈ getB s v, okC c = true

/-- What now tells. -/
def NowOut (S : Nat → Prop) (x : List C) (w : World) (e : Ending) (w' : World) : Prop := ∃ p, e = .returned (.pointer (some ⟨p, 0, none⟩)) ∧ TreeAt S w' p x ∧ Below w.heap.size w w'

def NowAt2 (S : Nat → Prop) (s : List B) (x : List C) (w : World) (k : Nat) (o : Value) (wr : World) : Prop := ∃ p t, o = .pointer (some ⟨p, 0, none⟩) ∧ TreeAt S wr p t ∧ Now s k t x ∧ (∀ c ∈ t, okC c = true) ∧ Below w.heap.size w wr

set_option maxRecDepth 100000 in
set_option maxHeartbeats 4000000 in
theorem now_any (lo P p : Nat) (S : Nat → Prop) (s : List B) (t x : List C) (n : Nat) (w : World) (hs : s.length ≤ 4194304) (hB : Bnd lo w P S s) (hT : TreeAt S w p t) (hN : Now s n t x) (hok : ∀ c ∈ t, okC c = true) (hokT : OkT s) :
    Calls Tryd.prog 88 #[.pointer (some ⟨P, 0, none⟩), .pointer (some ⟨p, 0, none⟩)] w fun e w' => w' = w ∧ NowOut S x w e w' := by
  have HT := hide hT
  have HN := hide hN
  have HOK := hide hok
  have HOKT := hide hokT
  clear hT hN hok hokT
  go_enter Tryd.func88, Tryd.ntmps88
  go_wp2
  go_loopg [1] n (fun k o wr => wr = w ∧ NowAt2 S s x w k o wr)
  case atStart => exact ⟨rfl, p, t, rfl, unhide HT, unhide HN, unhide HOK, Below.refl _ _⟩
  case round =>
    clear HT HN HOK
    obtain ⟨hwe, q, u, rfl, hTu, hNu, hoku, hBw⟩ := hrel
    subst hwe
    obtain ⟨c, r, nv, rfl, hnode⟩ := hTu.top
    obtain ⟨h0, h1, h2⟩ := hnode.cells
    have hcok := hoku c (by simp)
    have HTU := hide hTu
    clear hTu hnode hoku
    by_cases hk : c.k = 1
    · have hkb : (c.k == 1) = true := by simpa using hk
      have hwf : (Lit.int .i64 c.n).wf = true := WalkArith.wf_i64 (by have := (okC1 hk).1 hcok; omega)
      have HG := hide (get_any lo P S s c.n wr hs hB hwf)
      cases hNu with
      | stop hstop =>
        have HG0 := hide (hstop hk)
        clear hk hstop
        go_wp2_with fail
        refine (unhide HG).mono ?_
        rintro e w1 ⟨hwe, hgo⟩
        subst hwe
        obtain rfl : e = .returned (.pointer none) := by
          rcases hgo with h | h
          · exact h.2
          · exact absurd (unhide HG0) h.1
        clear hgo HG
        go_wp2
        go_ret
        exact ⟨rfl, q, rfl, unhide HTU, Below.refl _ _⟩
      | @on n2 _ _ _ _ hb hN2 =>
        have HB0 := hide hb
        have HN2 := hide hN2
        have HOK2 := hide (unhide HOKT c.n)
        clear hk hb hN2
        go_wp2_with fail
        refine (unhide HG).mono ?_
        rintro e w1 ⟨hwe, hgo⟩
        subst hwe
        obtain ⟨pe, rfl, hTe⟩ : ∃ pe, e = .returned (.pointer (some ⟨pe, 0, none⟩)) ∧ TreeAt S w1 pe (getB s c.n) := by
          rcases hgo with h | ⟨_, pe, h1, h2⟩
          · exact absurd h.1 (unhide HB0)
          · exact ⟨pe, h1, h2⟩
        have HTE := hide hTe
        clear hgo HG hTe
        go_wp2
        go_roundg n2
        case measure => omega
        case rel => exact ⟨rfl, pe, _, rfl, unhide HTE, unhide HN2, unhide HOK2, Below.refl _ _⟩
    · have hkb : (c.k == 1) = false := by simpa using hk
      cases hNu with
      | on h1' => exact absurd h1' hk
      | stop hstop =>
      clear hk hstop
      go_wp2
      go_ret
      exact ⟨rfl, q, rfl, unhide HTU, Below.refl _ _⟩
end Go.Proofs.YtonpahhcfgdeoaaDoor

/- A tree's top and its args; one round of full, as lists. -/
namespace Go.Proofs.YtonpahhcfgdeoaaDoor
open Go.RowKit
set_option linter.unusedVariables false

theorem TreeAt.parts {S : Nat → Prop} {W : World} {p : Nat} {t : List C} (h : TreeAt S W p t) : ∃ (c : C) (ks : List (Nat × List C)) (ao : Option Addr) (cap : Nat), t = c :: (ks.map (·.2)).flatten ∧ S p ∧ ks.length ≤ 3 ∧ (ks.length : Int) = ari c ∧ Node W p c (.slice ao ks.length cap) ∧
    (ks = [] ∨ ∃ q, ao = some ⟨q, 0, none⟩ ∧ S q ∧ ∀ i, (h : i < ks.length) → W.cell? ⟨q, i, none⟩ = some (.pointer (some ⟨ks[i].1, 0, none⟩))) ∧ ∀ k ∈ ks, TreeAt S W k.1 k.2 := by
  obtain ⟨z, ⟨c, ks, ao, cap, rfl, hp, ⟨h3, ha⟩, hn, hr, hs⟩, rfl⟩ := h
  refine ⟨c, ks.map (fun k => (k.1, k.2.map (·.2))), ao, cap, ?_, hp, by simpa using h3, by simpa using ha, by simpa using hn, ?_, ?_⟩
  · simp [List.map_flatten, List.map_map, Function.comp_def]
  · rcases hr with rfl | ⟨q, e, hq, hr⟩
    · exact .inl rfl
    · exact .inr ⟨q, e, hq, fun i hi => by simpa using hr i (by simpa using hi)⟩
  · intro k hk
    obtain ⟨k', hk', rfl⟩ := List.mem_map.1 hk
    exact ⟨k'.2, tre_fuel (hs k' hk') (Nat.le_succ _), rfl⟩

theorem TreeAt.trm {S : Nat → Prop} {W : World} {p : Nat} {t : List C} (h : TreeAt S W p t) (hok : ∀ c ∈ t, okC c = true) : Trm t := by
  obtain ⟨z, hz, rfl⟩ := h
  exact ⟨⟨40, hz.tm⟩, hok⟩

/-- One round: the top of the stack is told, its args come in its place. -/
theorem full_step {s : List B} (hs : OkB s) {u x : List C} {us : List C} (hu : Trm u) {n : Nat} (hN : Now s n u x) {m : Nat} {rest : List C} (hE : Exp s m (u ++ us) rest) :
    ∃ c r m' rest', x = c :: r ∧ rest = c :: rest' ∧ Exp s m' (r ++ us) rest' := by
  obtain ⟨c, r, rfl, hc⟩ := hN.head
  obtain ⟨m1, m2, z1, z2, h1, h2, rfl⟩ := exp_split hE
  obtain ⟨ρ, hρ⟩ := hs.rank
  obtain ⟨k, z, hz⟩ := exp_all hρ r
  obtain ⟨m', hm'⟩ := hN.exp hs hu (Exp.keep hc hz)
  obtain ⟨rfl, _⟩ := h1.det hm'
  exact ⟨c, r, _, z ++ z2, rfl, rfl, hz.append h2⟩
end Go.Proofs.YtonpahhcfgdeoaaDoor

/- Towards the walk of leads: what the search knows; how often a variable was seen. -/
namespace Go.Proofs.YtonpahhcfgdeoaaDoor
open Go.RowKit Go.Maps
set_option linter.unusedVariables false
set_option linter.unusedSimpArgs false

/-- What the search for a variable knows: the trees that are left, those that are done, and the variables that were seen. -/
structure LdI (s : List B) (t : List C) (v : Int) (seen : List Int) (st pr : List (List C)) : Prop where
  start : t ∈ st ∨ t ∈ pr
  got : ∀ u ∈ seen, getB s u ∈ st ∨ getB s u ∈ pr
  clos : ∀ x ∈ pr, ¬ varIn x v ∧ ∀ u, varIn x u → getB s u ≠ [] → u ∈ seen
  reach : ∀ x ∈ st, ∀ u, varIn x u → Reach s t u
  bnd : ∀ u ∈ seen, getB s u ≠ []
  nd : seen.Nodup

theorem LdI.begin (s : List B) (t : List C) (v : Int) : LdI s t v [] [t] [] :=
  ⟨.inl (by simp), fun u h => by simp at h, fun x h => by simp at h, fun x hx u hu => by simp at hx; subst hx; exact .here hu, fun u h => by simp at h, .nil⟩
theorem LdI.found {s : List B} {t x : List C} {v : Int} {seen : List Int} {st pr : List (List C)} (h : LdI s t v seen (x :: st) pr) (hv : varIn x v) : Reach s t v := h.reach x (by simp) v hv
theorem LdI.new {s : List B} {t x : List C} {v u : Int} {seen : List Int} {st pr : List (List C)} (h : LdI s t v seen (x :: st) pr) (hu : varIn x u) (hb : getB s u ≠ []) (hn : u ∉ seen) : LdI s t v (u :: seen) (x :: getB s u :: st) pr := by
  have up : ∀ {z : List C}, z ∈ x :: st ∨ z ∈ pr → z ∈ x :: getB s u :: st ∨ z ∈ pr := fun hz => by
    rcases hz with hz | hz
    · rcases List.mem_cons.1 hz with rfl | hz
      · exact .inl (by simp)
      · exact .inl (by simp [hz])
    · exact .inr hz
  refine ⟨up h.start, fun y hy => ?_, fun y hy => ?_, fun y hy w hw => ?_, fun y hy => ?_, List.nodup_cons.2 ⟨hn, h.nd⟩⟩
  · rcases List.mem_cons.1 hy with rfl | hy
    · exact .inl (by simp)
    · exact up (h.got y hy)
  · obtain ⟨h1, h2⟩ := h.clos y hy
    exact ⟨h1, fun w hw hb => List.mem_cons_of_mem _ (h2 w hw hb)⟩
  · rcases List.mem_cons.1 hy with rfl | hy
    · exact h.reach _ (by simp) w hw
    · rcases List.mem_cons.1 hy with rfl | hy
      · exact .step (h.reach x (by simp) u hu) hw
      · exact h.reach y (by simp [hy]) w hw
  · rcases List.mem_cons.1 hy with rfl | hy
    · exact hb
    · exact h.bnd y hy
theorem LdI.finish {s : List B} {t x : List C} {v : Int} {seen : List Int} {st pr : List (List C)} (h : LdI s t v seen (x :: st) pr) (hv : ¬ varIn x v) (ha : ∀ u, varIn x u → getB s u ≠ [] → u ∈ seen) : LdI s t v seen st (x :: pr) := by
  have up : ∀ {z : List C}, z ∈ x :: st ∨ z ∈ pr → z ∈ st ∨ z ∈ x :: pr := fun hz => by
    rcases hz with hz | hz
    · rcases List.mem_cons.1 hz with rfl | hz
      · exact .inr (by simp)
      · exact .inl hz
    · exact .inr (by simp [hz])
  refine ⟨up h.start, fun y hy => up (h.got y hy), fun y hy => ?_, fun y hy => h.reach y (by simp [hy]), h.bnd, h.nd⟩
  rcases List.mem_cons.1 hy with rfl | hy
  · exact ⟨hv, ha⟩
  · exact h.clos y hy
theorem LdI.done {s : List B} {t : List C} {v : Int} {seen : List Int} {pr : List (List C)} (h : LdI s t v seen [] pr) : ¬ Reach s t v := by
  have key : ∀ u, Reach s t u → ∃ x ∈ pr, varIn x u := by
    intro u hu
    induction hu with
    | here h1 => exact ⟨t, h.start.resolve_left (by simp), h1⟩
    | @step u' v' _ h2 ih =>
      obtain ⟨x, hx, hu'⟩ := ih
      have hs := (h.clos x hx).2 u' hu' (ne_of_varIn h2)
      exact ⟨_, (h.got u' hs).resolve_left (by simp), h2⟩
  intro hr
  obtain ⟨x, hx, hv⟩ := key v hr
  exact (h.clos x hx).1 hv
theorem LdI.len {s : List B} {t : List C} {v : Int} {seen : List Int} {st pr : List (List C)} (h : LdI s t v seen st pr) : seen.length ≤ s.length := by
  have := nodup_len h.nd (V := s.map (·.v)) (fun u hu => by obtain ⟨x, hx, e, _⟩ := getB_mem (h.bnd u hu); exact List.mem_map.2 ⟨x, hx, e⟩)
  simpa using this

/-- The map tells which variables were seen; no number is above N. -/
def TabC (seen : List Int) (N : Nat) (D : DataW Unit) : Prop := Maps.IsMap D ∧ ∀ x : Int, ∃ c : Nat, D.atKey (.int .i64 x) (.lit (.int .i64 0)) = .lit (.int .i64 (c : Int)) ∧ (c = 0 ↔ x ∉ seen) ∧ c ≤ N
theorem tabC_nil : TabC [] 0 (.map [] : DataW Unit) := ⟨Maps.isMap_empty, fun x => ⟨0, rfl, by simp, Nat.le_refl _⟩⟩
theorem tabC_put {seen : List Int} {N c : Nat} {D : DataW Unit} {u : Int} (h : TabC seen N D) (hc : D.atKey (.int .i64 u) (.lit (.int .i64 0)) = .lit (.int .i64 (c : Int))) (hN : c ≤ N) (seen' : List Int) (hs : ∀ x, x ∈ seen' ↔ x = u ∨ x ∈ seen) : TabC seen' (N + 1) (D.put (.int .i64 u) (.lit (.int .i64 ((c + 1 : Nat) : Int)))) := by
  refine ⟨h.1.put _ _, fun x => ?_⟩
  by_cases e : x = u
  · subst e
    exact ⟨c + 1, Maps.atKey_put_same h.1 (show WideAt.IsKeyLit (Lit.int .i64 x) from trivial) _ _, by simp [hs], by omega⟩
  · obtain ⟨d, h1, h2, h3⟩ := h.2 x
    refine ⟨d, by rw [Maps.atKey_put_other (by intro h'; apply e; simpa using h'), h1], ?_, by omega⟩
    rw [h2, hs]
    simp [e]
theorem tabC_at_put {N : Nat} {D : DataW Unit} {u : Int} {z : Int} (h : Maps.IsMap D) : (D.put (.int .i64 u) (.lit (.int .i64 z))).atKey (.int .i64 u) (.lit (.int .i64 0)) = .lit (.int .i64 z) := Maps.atKey_put_same h (show WideAt.IsKeyLit (Lit.int .i64 u) from trivial) _ _

/-- Two places are one. -/
theorem eql_cell (c d : C) (w : World) : (binOp .eql 55 (.agg #[.int .i64 c.k, .int .i64 c.n, .string c.s]) (.agg #[.int .i64 d.k, .int .i64 d.n, .string d.s])).run Tryd.prog w = .ok (.bool (same c d)) w := by
  rw [run_eql_struct, run_equalIn_agg w 9999 55 _ _ Tryd.fieldsCell Tryd.heldCell]
  by_cases h1 : c.k = d.k
  · by_cases h2 : c.n = d.n
    · simp [Program.fieldsOf, Tryd.underlying55, Op.eqFields, go_sem, same, h1, h2, ByteArray.toList_eq]
      by_cases h3 : c.s.data = d.s.data
      · simp [h3]
      · simp [h3]
    · simp [Program.fieldsOf, Tryd.underlying55, Op.eqFields, go_sem, same, h1, h2]
  · simp [Program.fieldsOf, Tryd.underlying55, Op.eqFields, go_sem, same, h1]
end Go.Proofs.YtonpahhcfgdeoaaDoor
