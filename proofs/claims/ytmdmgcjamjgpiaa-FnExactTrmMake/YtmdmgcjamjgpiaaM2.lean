/- The walks of eqTrmCellSS, markTrmCellSS; TrmMake of no arguments; rows of rows that came in. -/
import Derived.Test.YtmdmgcjamjgpiaaM1
import Derived.Test.YtmdmgcjamjgpiaaOpen3
namespace Go.Proofs.Ytmdmgcjamjgpiaa
open Go.RowKit Go.Deep Go.ChangeShapes Go.WideShapes
set_option linter.unusedVariables false
set_option linter.unusedSimpArgs false

set_option maxRecDepth 100000 in
set_option maxHeartbeats 1000000 in
theorem eqTrmCellSS_some (b off cap b' off' cap' : Nat) (s : List (List C)) (w : World) (hm : s.length ≤ maxLen) (hA : AtS w b off s) (hU : AtS w b' off' s) :
    Calls Try.prog 47 #[.slice (some ⟨b, off, none⟩) s.length cap, .slice (some ⟨b', off', none⟩) s.length cap'] w fun e w' => e = .returned (.bool true) ∧ Below w.heap.size w w' := by
  unfold maxLen at hm
  have hne : ((s.length : Int) != (s.length : Int)) = false := by simp
  go_enter Try.func47, Try.ntmps47
  go_wp2
  go_loopw [5] (fun i wr => ∃ (k : Nat), k ≤ s.length ∧ i = .int .i64 k ∧ Below w.heap.size w wr) (fun i _ => s.length - (intOf i).toNat)
  case atStart => exact ⟨0, Nat.zero_le _, rfl, Below.refl _ _⟩
  case round =>
    obtain ⟨k, hk, rfl, hB⟩ := hrel
    by_cases hlt : k < s.length
    · obtain ⟨ao, cp, c1, hc, hcm, hR⟩ := (hA.below hB) k hlt
      obtain ⟨bo, cp', d1, hc', hcm', hR'⟩ := (hU.below hB) k hlt
      obtain ⟨y, hy⟩ : ∃ y, y = s[k] := ⟨_, rfl⟩
      rw [← hy] at c1 d1 hR hR' hc
      clear hy
      have hml : y.length ≤ maxLen := by omega
      clear hc hcm hc' hcm'
      have HR := hide hR
      have HR' := hide hR'
      clear hR hR'
      go_wp2
      go_region_with (go_at_call 46; refine (eqTrmCellS_any ao bo cp cp' y y _ hml (by exact unhide HR) (by exact unhide HR')).mono ?_; rw [sameS_yes rfl]; rintro e w1 ⟨rfl, hb1⟩)
      all_goals go_wp2
      all_goals go_roundw
      all_goals first | exact ⟨k + 1, by omega, by go_num, bstep hB.drew (by assumption)⟩ | (simp [intOf]; omega)
    · go_wp2
      go_ret
      exact ⟨rfl, hB⟩

set_option maxRecDepth 100000 in
theorem eqTrmCellSS_none (ao bo : Option Addr) (cap cap' : Nat) (w : World) :
    Calls Try.prog 47 #[.slice ao 0 cap, .slice bo 0 cap'] w fun e w' => e = .returned (.bool true) ∧ Below w.heap.size w w' := by
  go_enter Try.func47, Try.ntmps47
  go_wp2
  refine wp_loop_rounds 1 ?_
  rw [rounds_succ]
  go_wp2
  go_ret
  exact ⟨rfl, Below.refl _ _⟩

theorem eqTrmCellSS_yes (ao bo : Option Addr) (cap cap' : Nat) (s : List (List C)) (w : World) (hm : s.length ≤ maxLen) (hA : RowSS w ao s) (hU : RowSS w bo s) :
    Calls Try.prog 47 #[.slice ao s.length cap, .slice bo s.length cap'] w fun e w' => e = .returned (.bool true) ∧ Below w.heap.size w w' := by
  rcases hA with rfl | ⟨b, off, rfl, hA⟩
  · exact eqTrmCellSS_none ao bo cap cap' w
  · rcases hU with rfl | ⟨b', off', rfl, hU⟩
    · exact eqTrmCellSS_none _ bo cap cap' w
    · exact eqTrmCellSS_some b off cap b' off' cap' s w hm hA hU

/-- How far markTrmCellSS has come: from j on nothing is marked. -/
def MkS (w : World) (lo hi g cap : Nat) (s : List (List C)) (j : Nat) (wr : World) : Prop :=
  ∃ us : List Value, us.length = s.length ∧ wr.ownsRow lo 24 1 (.slice (some ⟨g, 0, none⟩) s.length cap) s.length us ∧ (∀ i, (h : i < s.length) → (h' : i < us.length) → j ≤ i → OwnC wr lo us[i] s[i]) ∧ (us.filterMap Value.ownBlock).Nodup ∧
    (∀ u ∈ us, ∀ k, u.ownBlock = some k → k < hi) ∧ Btw lo hi w wr

theorem mkS_begin {w wr : World} {lo hi g cap j : Nat} {s : List (List C)} (hj : j < s.length) (h : MkS w lo hi g cap s j wr) :
    ∃ ao cp, wr.cell? ⟨g, j, none⟩ = some (.slice ao s[j].length cp) ∧ OwnC wr lo (.slice ao s[j].length cp) s[j] ∧
      ∀ w2, wr.grownBy w2 (Value.slice ao s[j].length cp).ownBlock → MkS w lo hi g cap s (j + 1) w2 := by
  obtain ⟨us, h1, h2, h3, h4, h5, h6⟩ := h
  have hju : j < us.length := by omega
  have ho := h3 j hj hju (Nat.le_refl _)
  obtain ⟨ao, cp, e, _⟩ := ho.shape
  have hc : wr.cell? ⟨g, j, none⟩ = some (.slice ao s[j].length cp) := by rw [h2.cellAt j (by omega), List.getElem?_eq_getElem hju, e]
  refine ⟨ao, cp, hc, by rw [← e]; exact ho, fun w2 hg => ?_⟩
  rw [← e] at hg
  refine ⟨us, h1, ?_, fun i hi' hi'' hji => ?_, h4, h5, h6.trans (Btw.of_grown hg (fun k e' => ⟨(ho.lt k e').1, h5 _ (List.getElem_mem hju) k e'⟩))⟩
  · refine World.ownsRow.kept h2 hg ?_
    rcases rows_apart' h2 ho (by decide) with e' | e'
    · cases e'
    · exact .inr e'
  · refine World.ownsRow.kept (h3 i hi' hi'' (by omega)) hg ?_
    cases hub : us[i].ownBlock with
    | none => exact .inl rfl
    | some k =>
      refine .inr fun e' => ?_
      have := filterMap_one h4 hi'' hju (hub.trans e') (by rw [hub]; simp)
      omega

set_option maxRecDepth 100000 in
set_option maxHeartbeats 1000000 in
theorem markTrmCellSS_some (g cap lo hi : Nat) (s : List (List C)) (w : World) (hm : s.length + s.flatten.length ≤ 1048576) (hA : OwnSS w lo hi (.slice (some ⟨g, 0, none⟩) s.length cap) s) :
    Calls Try.prog 48 #[.slice (some ⟨g, 0, none⟩) s.length cap, .int .i64 1] w fun e w' => ∃ k : Nat, e = .returned (.int .i64 (k : Int)) ∧ Btw lo hi w w' := by
  go_enter Try.func48, Try.ntmps48
  go_wp2
  go_loopw [1, 5] (fun m i wr => ∃ (j e : Nat), j ≤ s.length ∧ i = .int .i64 j ∧ m = .int .i64 (e : Int) ∧ e = 1 + 3 * (s.take j).flatten.length ∧ MkS w lo hi g cap s j wr) (fun _ i _ => s.length - (intOf i).toNat)
  case atStart =>
    obtain ⟨us, h1, h2, h3, h4, h5, h6⟩ := hA
    exact ⟨0, 1, Nat.zero_le _, rfl, rfl, by simp, us, h1, h2, fun i q1 q2 _ => h3 i q1 q2, h4, h5, Btw.refl _ _ _⟩
  case round =>
    obtain ⟨j, e, hj, rfl, rfl, he, hK⟩ := hrel
    have hel : e ≤ 4194303 := by rw [he]; have := flat_take_le s j; omega
    have he1 : 1 ≤ e := by omega
    by_cases hlt : j < s.length
    · obtain ⟨ao, cp, d1, ho, R⟩ := mkS_begin hlt hK
      have hml : s[j].length ≤ 1048576 := by have := flat_mem (List.getElem_mem hlt); omega
      have HE : Hid (e + 3 * s[j].length = 1 + 3 * (s.take (j + 1)).flatten.length) := by show _ = _; rw [flat_take_succ hlt, he]; omega
      have HR := hide R
      have HO := hide ho
      clear R ho hK he
      obtain ⟨t, ht⟩ : ∃ t, t = s[j] := ⟨_, rfl⟩
      rw [← ht] at HO HR HE d1 hml
      clear ht
      go_wp2_with fail
      refine (markTrmCellS_any ao cp t e lo _ hml (by omega) (by omega) (unhide HO)).mono ?_
      rintro e' w2 ⟨rfl, h1, h2⟩
      have HZ := hide (unhide HR _ h2)
      clear h1 h2 d1 HR HO
      go_wp2
      go_roundw
      case rel => exact ⟨j + 1, e + 3 * t.length, by omega, by go_num, by go_num, unhide HE, unhide HZ⟩
      case measure => simp [intOf]; omega
    · obtain ⟨_, _, _, _, _, _, hB⟩ := hK
      go_wp2
      go_ret
      exact ⟨_, rfl, hB⟩

set_option maxRecDepth 100000 in
theorem markTrmCellSS_none (ao : Option Addr) (cap : Nat) (w : World) :
    Calls Try.prog 48 #[.slice ao 0 cap, .int .i64 1] w fun e w' => e = .returned (.int .i64 1) ∧ w' = w := by
  go_enter Try.func48, Try.ntmps48
  go_wp2
  refine wp_loop_rounds 1 ?_
  rw [rounds_succ]
  go_wp2
  go_ret
  exact ⟨rfl, rfl⟩

theorem markTrmCellSS_any (ao : Option Addr) (cap lo hi : Nat) (s : List (List C)) (w : World) (hm : s.length + s.flatten.length ≤ 1048576) (hA : OwnSS w lo hi (.slice ao s.length cap) s) :
    Calls Try.prog 48 #[.slice ao s.length cap, .int .i64 1] w fun e w' => ∃ k : Nat, e = .returned (.int .i64 (k : Int)) ∧ Btw lo hi w w' := by
  by_cases h0 : s.length = 0
  · have hz : s = [] := List.length_eq_zero_iff.1 h0
    subst hz
    refine (markTrmCellSS_none ao cap w).mono ?_
    rintro e w' ⟨rfl, rfl⟩
    exact ⟨1, rfl, Btw.refl _ _ _⟩
  · have hA' := hA
    obtain ⟨us, _, h2, _⟩ := hA
    rcases h2.2 with ⟨e, hn⟩ | ⟨g, cap', cur, e, _⟩
    · exact absurd hn h0
    · simp only [Value.slice.injEq] at e
      obtain ⟨rfl, _, rfl⟩ := e
      exact markTrmCellSS_some g cap lo hi s w hm hA'

set_option maxRecDepth 100000 in
set_option maxHeartbeats 1000000 in
theorem TrmMake_none (ao : Option Addr) (cap : Nat) (s : ByteArray) (w : World) (hs : s.size ≤ maxLen) :
    Calls Try.prog 45 #[.string s, .slice ao 0 cap] w fun e w' => ∃ v, e = .returned v ∧ OwnC w' w.heap.size v (makeOf s []) ∧ Below w.heap.size w w' := by
  have H := hide (fun w1 => cellOk_any ⟨3, (([] : List (List C)).length : Nat), s⟩ w1 hs)
  simp only [List.length_nil] at H
  cases hok : okC ⟨3, (0 : Nat), s⟩ with
  | false =>
    rw [hok] at H
    have HE := hide (makeOf_bad (ts := []) (s := s) (by simpa using hok))
    go_enter Try.func45, Try.ntmps45
    go_wp2_with (go_at_call 77; refine (unhide H _).mono ?_; rintro e w1 ⟨rfl, hb1⟩)
    go_ret
    exact ⟨_, rfl, by rw [unhide HE]; exact World.ownsRow_nil _ _ _ _, bstep (cell_below _ _) hb1⟩
  | true =>
    rw [hok] at H
    go_enter Try.func45, Try.ntmps45
    go_wp2_with (go_at_call 77; refine (unhide H _).mono ?_; rintro e w1 ⟨rfl, hb1⟩)
    have hb0 := cell_below w (.cells #[.int .i64 3, .int .i64 (0 : Nat), .string s, .slice none 0 0] 96)
    have hn0 : Node (w.alloc (.cells #[.int .i64 3, .int .i64 (0 : Nat), .string s, .slice none 0 0] 96)) w.heap.size ⟨3, (0 : Nat), s⟩ (.slice none 0 0) := World.alloc_heap_new w _
    have hB := bstep hb0 hb1
    have hK1 : Kids w 40 ⟨3, (0 : Nat), s⟩ [] ([] : List (List C)).length (.slice none 0 0) [] w1 := ⟨by simp, rfl, (hb1.block _ hn0.lt).trans hn0, World.ownsRow_nil _ _ _ _, by simp, by simp, hB⟩
    obtain ⟨z, hz, hnd, hT⟩ := kids_end hK1 (by simp) (by simp [ari])
    have HE := hide (makeOf_all (s := s) (ts := []) (by simp))
    have HL := hide (list_any 41 w.heap.size z (⟨3, (0 : Nat), s⟩ :: ([] : List (List C)).flatten) (hide hz) w1 (hT.shp (fun b hb => hb.2)) (hT.held (fun b hb => hb.2)) (by
      have h1 := congrArg List.length hz
      simp at h1
      omega) (fun c hc => by
      simp at hc
      subst hc
      exact hs))
    clear hz hnd hT hK1 hn0
    refine wp_loop_rounds 1 ?_
    rw [rounds_succ]
    go_wp2_with (go_at_call 80; refine (unhide HL).mono ?_; rintro e w2 ⟨v2, rfl, hO, hb2⟩)
    go_ret
    exact ⟨_, rfl, by rw [unhide HE]; exact OwnC.base hO hB.size, bstep hB hb2⟩

theorem TrmMake_any (ao : Option Addr) (cap : Nat) (s : ByteArray) (ts : List (List C)) (w : World) (hs : s.size ≤ maxLen) (hl3 : ts.length ≤ 1048576) (hA : RowSS w ao ts) (hF : ∀ t ∈ ts, Fit t) (hm : ∀ t ∈ ts, t.length ≤ maxLen) :
    Calls Try.prog 45 #[.string s, .slice ao ts.length cap] w fun e w' => ∃ v, e = .returned v ∧ OwnC w' w.heap.size v (makeOf s ts) ∧ Below w.heap.size w w' := by
  rcases hA with rfl | ⟨b, off, rfl, hA⟩
  · exact TrmMake_none ao cap s w hs
  · exact TrmMake_some b off cap s ts w hs hl3 hA hF hm

set_option maxRecDepth 100000 in
set_option maxHeartbeats 1000000 in
theorem specTrmMake_none (ao : Option Addr) (cap : Nat) (s : ByteArray) (w : World) (hs : s.size ≤ maxLen) :
    Calls Try.prog 43 #[.string s, .slice ao 0 cap] w fun e w' => ∃ v, e = .returned v ∧ OwnC w' w.heap.size v (makeOf s []) ∧ Below w.heap.size w w' := by
  have hown := own_one w ⟨3, (0 : Nat), s⟩
  have hB := cell_below w (.cells #[.int .i64 3, .int .i64 (0 : Nat), .string s] 46)
  have HE := hide (makeOf_all (s := s) (ts := []) (by simp))
  have HFY : Hid (Fit [(⟨3, (0 : Nat), s⟩ : C)]) := fun c hc => by simp at hc; subst hc; exact hs
  have H3 := hide (specTrmOk_any (some ⟨w.heap.size, 0, none⟩) 1 [(⟨3, (0 : Nat), s⟩ : C)] _ (by simp [maxLen]) hown.row (unhide HFY))
  cases hok : trm [(⟨3, (0 : Nat), s⟩ : C)] with
  | false =>
    rw [hok] at H3
    go_enter Try.func43, Try.ntmps43
    go_wp2
    refine wp_loop_rounds 1 ?_
    rw [rounds_succ]
    go_wp2_with (go_at_call 26; refine (unhide H3).mono ?_; rintro e w1 ⟨rfl, hb1⟩)
    go_ret
    exact ⟨_, rfl, by rw [unhide HE, listed]; simp only [List.length_nil, List.flatten_nil, hok]; exact made_nil (bstep hB hb1), bstep (bstep hB hb1) (cell_below _ _)⟩
  | true =>
    rw [hok] at H3
    go_enter Try.func43, Try.ntmps43
    go_wp2
    refine wp_loop_rounds 1 ?_
    rw [rounds_succ]
    go_wp2_with (go_at_call 26; refine (unhide H3).mono ?_; rintro e w1 ⟨rfl, hb1⟩)
    go_ret
    exact ⟨_, rfl, by rw [unhide HE, listed]; simp only [List.length_nil, List.flatten_nil, hok]; exact OwnC.below hown hb1, bstep hB hb1⟩

theorem specTrmMake_any (ao : Option Addr) (cap : Nat) (s : ByteArray) (ts : List (List C)) (w : World) (hs : s.size ≤ maxLen) (hl3 : ts.length ≤ 1048576) (hA : RowSS w ao ts) (hF : ∀ t ∈ ts, Fit t) (hm : ∀ t ∈ ts, t.length ≤ maxLen) :
    Calls Try.prog 43 #[.string s, .slice ao ts.length cap] w fun e w' => ∃ v, e = .returned v ∧ OwnC w' w.heap.size v (makeOf s ts) ∧ Below w.heap.size w w' := by
  rcases hA with rfl | ⟨b, off, rfl, hA⟩
  · exact specTrmMake_none ao cap s w hs
  · exact specTrmMake_some b off cap s ts w hs hl3 hA hF hm

theorem makeOf_len (s : ByteArray) (ts : List (List C)) : (makeOf s ts).length ≤ 40 := by
  unfold makeOf
  split
  · unfold listed
    split
    · rename_i h; exact (trm_len h).2
    · simp
  · simp

theorem choose_T {n : Nat} {p : Nat → List C → Prop} (h : ∀ i, i < n → ∃ x, p i x) : ∃ f : Nat → List C, ∀ i, i < n → p i (f i) := by
  classical
  refine ⟨fun i => if hi : i < n then Classical.choose (h i hi) else [], fun i hi => ?_⟩
  simp only [dif_pos hi]
  exact Classical.choose_spec (h i hi)

set_option maxRecDepth 100000 in
/-- A slice of slices of places that came in leads to them. -/
theorem open_cellss {H : Type} {enc : TypeId × Value → H} {W : World} {a : Option Addr} {len cap : Nat} {d : DataW H} {p : List MemPlace}
    (h : DataW.Trod enc Try.prog W 0 (fun _ => true) true 53 (.slice a len cap) d p) :
    ∃ s : List (List C), s.length = len ∧ len ≤ maxLen ∧ RowSS W a s ∧ (∀ t ∈ s, Fit t ∧ t.length ≤ maxLen) := by
  obtain ⟨fuel, hf⟩ := h
  rcases open_slice Try.underlying53 hf with ⟨hcs, _⟩ | ⟨x, l, c, m, n, D, Pl, hcs, _, hl, hm, hmm, _, hx⟩
  · simp [Value.cells] at hcs
    obtain ⟨rfl, rfl, rfl⟩ := hcs
    exact ⟨[], rfl, by simp [maxLen], .inl rfl, fun c hc => by simp at hc⟩
  · simp [Value.cells] at hcs
    obtain ⟨rfl, rfl, rfl⟩ := hcs
    simp only [if_true] at hmm
    have each : ∀ i, i < len → ∃ t : List C, (∃ ao cp, W.cell? (x.add i) = some (.slice ao t.length cp) ∧ t.length ≤ cp ∧ cp ≤ maxLen ∧ Row W ao t) ∧ Fit t ∧ t.length ≤ maxLen := fun i hi => by
      obtain ⟨cs', h1, h2⟩ := hx i (by omega)
      rw [Try.cellsSl] at h1
      obtain ⟨_, hlen, hcell⟩ := World.cells?_some h1
      match cs', hlen with
      | [v1], _ =>
        have k1 := hcell 0 (by omega)
        have sh : ∃ ao l c, v1 = .slice ao l c ∧ l ≤ c ∧ c ≤ maxLen := by
          rcases open_slice Try.underlying67 h2 with ⟨hcs, _⟩ | ⟨x, l, c, m, n, D, Pl, hcs, _, hl, hm, _⟩
          · simp at hcs; exact ⟨_, _, _, hcs, Nat.le_refl _, Nat.zero_le _⟩
          · simp at hcs; exact ⟨_, _, _, hcs, hl, hm⟩
        obtain ⟨ao, l1, c1, rfl, hl1, hc1⟩ := sh
        obtain ⟨t, rfl, _, hR, hF, hw⟩ := open_cells (enc := enc) ⟨n, h2⟩
        simp at k1
        rw [add_add] at k1
        exact ⟨t, ⟨ao, c1, by simpa using k1, hl1, hc1, hR⟩, hF, by omega⟩
    obtain ⟨b, off, spot⟩ := x
    by_cases h0 : len = 0
    · subst h0
      exact ⟨[], rfl, by omega, .inl rfl, fun c hc => by simp at hc⟩
    · have hsp : spot = none := by
        obtain ⟨q, ⟨_, _, hq, _⟩, _⟩ := each 0 (by omega)
        simpa [Addr.add] using World.cell?_spot hq
      subst hsp
      simp only [add_zero_spot] at each
      obtain ⟨f, hfn⟩ := choose_T each
      have hget : ∀ i, (hi : i < ((List.range len).map f).length) → ((List.range len).map f)[i] = f i := fun i hi => by simp
      refine ⟨(List.range len).map f, by simp, by omega, .inr ⟨b, off, rfl, fun i hi => ?_⟩, fun c hc => ?_⟩
      · rw [hget i hi]
        exact (hfn i (by simpa using hi)).1
      · obtain ⟨i, hi, rfl⟩ := List.mem_map.1 hc
        exact (hfn i (by simpa using hi)).2
end Go.Proofs.Ytmdmgcjamjgpiaa
