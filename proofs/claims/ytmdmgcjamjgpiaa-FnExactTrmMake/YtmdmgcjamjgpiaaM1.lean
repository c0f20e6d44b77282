/- Rows of rows of places in memory; the walks of szTrmCellSS, toTrmCellSS, eqTrmCellSS, markTrmCellSS. -/
import Derived.Test.YtmdmgcjamjgpiaaSB5
import Derived.Test.YtmdmgcjamjgpiaaT10
namespace Go.Proofs.Ytmdmgcjamjgpiaa
open Go.RowKit
set_option linter.unusedVariables false
set_option linter.unusedSimpArgs false

def RowSS (w : World) (ao : Option Addr) (ts : List (List C)) : Prop := ts = [] ∨ ∃ b off, ao = some ⟨b, off, none⟩ ∧ AtS w b off ts
theorem RowSS.below {w w' : World} {ao : Option Addr} {ts : List (List C)} (h : RowSS w ao ts) (hb : Below w.heap.size w w') : RowSS w' ao ts := by
  rcases h with h | ⟨b, off, e, h⟩
  · exact .inl h
  · exact .inr ⟨b, off, e, h.below hb⟩

theorem flat_take_succ {ts : List (List C)} {k : Nat} (h : k < ts.length) : (ts.take (k + 1)).flatten.length = (ts.take k).flatten.length + ts[k].length := by
  rw [List.take_succ_eq_append_getElem h, List.flatten_append, List.length_append]; simp
theorem flat_take_le (ts : List (List C)) (k : Nat) : (ts.take k).flatten.length ≤ ts.flatten.length := by
  conv => rhs; rw [← List.take_append_drop k ts, List.flatten_append, List.length_append]
  omega
theorem flat_mem {ts : List (List C)} {t : List C} (h : t ∈ ts) : t.length ≤ ts.flatten.length := by
  induction ts with
  | nil => simp at h
  | cons y s ih =>
    rw [List.flatten_cons, List.length_append]
    rcases List.mem_cons.1 h with rfl | h
    · omega
    · have := ih h; omega

set_option maxRecDepth 100000 in
set_option maxHeartbeats 1000000 in
theorem szTrmCellSS_some (b off cap : Nat) (s : List (List C)) (l : Int) (w : World) (hm : s.length ≤ maxLen) (hA : AtS w b off s) (hF : ∀ t ∈ s, Fit t) (h0 : 0 ≤ l) (h1 : l ≤ 1048576) :
    Calls Try.prog 42 #[.slice (some ⟨b, off, none⟩) s.length cap, .int .i64 l] w fun e w' => ∃ r : Int, e = .returned (.int .i64 r) ∧ (r < 0 ∨ (0 ≤ r ∧ r + s.length + s.flatten.length ≤ l)) ∧ Below w.heap.size w w' := by
  unfold maxLen at hm
  by_cases h : l - s.length < 0
  · go_enter Try.func42, Try.ntmps42
    go_wp2
    go_ret
    exact ⟨_, rfl, by omega, Below.refl _ _⟩
  · go_enter Try.func42, Try.ntmps42
    go_wp2
    go_loopw [1, 5] (fun m i wr => ∃ (k : Nat) (x : Int), k ≤ s.length ∧ i = .int .i64 k ∧ m = .int .i64 x ∧ 0 ≤ x ∧ x + s.length + (s.take k).flatten.length ≤ l ∧ Below w.heap.size w wr) (fun _ i _ => s.length - (intOf i).toNat)
    case atStart => exact ⟨0, _, Nat.zero_le _, rfl, rfl, by omega, by simp, Below.refl _ _⟩
    case round =>
      obtain ⟨k, x, hk, rfl, rfl, hx0, hx1, hB⟩ := hrel
      have HX := hide hx1
      have hxl : x ≤ 1048576 := by omega
      clear hx1
      by_cases hlt : k < s.length
      · obtain ⟨ao, cp, c1, hc, hcm, hR⟩ := (hA.below hB) k hlt
        have hf := hF _ (List.getElem_mem hlt)
        have HT := hide (flat_take_succ hlt)
        obtain ⟨y, hy⟩ : ∃ y, y = s[k] := ⟨_, rfl⟩
        rw [← hy] at c1 hf hR hc HT
        clear hy
        have hml : y.length ≤ maxLen := by omega
        clear hc hcm
        go_wp2_with fail
        refine (szTrmCellS_any ao cp y x _ hml hR hf hx0 hxl).mono ?_
        rintro e w1 ⟨r, rfl, hr, hb1⟩
        clear c1
        have HR := hide hr
        clear hr
        by_cases hr : r < 0
        · go_wp2
          go_ret
          exact ⟨_, rfl, by omega, bstep hB hb1⟩
        · go_wp2
          go_roundw
          case rel =>
            refine ⟨k + 1, r, by omega, by go_num, rfl, by omega, ?_, bstep hB hb1⟩
            have := unhide HR
            have := unhide HX
            rw [unhide HT]
            omega
          case measure => simp [intOf]; omega
      · go_wp2
        go_ret
        refine ⟨_, rfl, .inr ⟨hx0, ?_⟩, hB⟩
        have := unhide HX
        rw [List.take_of_length_le (by omega)] at this
        exact this

set_option maxRecDepth 100000 in
theorem szTrmCellSS_none (ao : Option Addr) (cap : Nat) (l : Int) (w : World) (h0 : 0 ≤ l) (h1 : l ≤ 1048576) :
    Calls Try.prog 42 #[.slice ao 0 cap, .int .i64 l] w fun e w' => ∃ r : Int, e = .returned (.int .i64 r) ∧ (r < 0 ∨ (0 ≤ r ∧ r + (0 : Nat) + (([] : List (List C)).flatten.length : Nat) ≤ l)) ∧ Below w.heap.size w w' := by
  go_enter Try.func42, Try.ntmps42
  go_wp2
  refine wp_loop_rounds 1 ?_
  rw [rounds_succ]
  go_wp2
  go_ret
  exact ⟨_, rfl, .inr ⟨h0, by simp⟩, Below.refl _ _⟩

theorem szTrmCellSS_any (ao : Option Addr) (cap : Nat) (s : List (List C)) (l : Int) (w : World) (hm : s.length ≤ maxLen) (hA : RowSS w ao s) (hF : ∀ t ∈ s, Fit t) (h0 : 0 ≤ l) (h1 : l ≤ 1048576) :
    Calls Try.prog 42 #[.slice ao s.length cap, .int .i64 l] w fun e w' => ∃ r : Int, e = .returned (.int .i64 r) ∧ (r < 0 ∨ (0 ≤ r ∧ r + s.length + s.flatten.length ≤ l)) ∧ Below w.heap.size w w' := by
  rcases hA with rfl | ⟨b, off, rfl, hA⟩
  · exact szTrmCellSS_none ao cap l w h0 h1
  · exact szTrmCellSS_some b off cap s l w hm hA hF h0 h1

/-- A slice value owns rows of places, all in blocks from lo to hi, each in a block of its own. -/
def OwnSS (w : World) (lo hi : Nat) (v : Value) (s : List (List C)) : Prop :=
  ∃ us : List Value, us.length = s.length ∧ w.ownsRow lo 24 1 v s.length us ∧ (∀ i, (h : i < s.length) → (h' : i < us.length) → OwnC w lo us[i] s[i]) ∧ (us.filterMap Value.ownBlock).Nodup ∧
    (∀ u ∈ us, ∀ k, u.ownBlock = some k → k < hi) ∧ ∀ k, v.ownBlock = some k → k < hi

theorem OwnSS.kept {w w' : World} {lo hi : Nat} {v : Value} {s : List (List C)} (h : OwnSS w lo hi v s) (hb : ∀ k, lo ≤ k → k < hi → w'.heap[k]? = w.heap[k]?) : OwnSS w' lo hi v s := by
  obtain ⟨us, h1, h2, h3, h4, h5, h6⟩ := h
  refine ⟨us, h1, own_block h2 (fun k e => hb k (h2.lt k e).1 (h6 k e)), fun i hi' hi'' => ?_, h4, h5, h6⟩
  exact own_block (h3 i hi' hi'') (fun k e => hb k ((h3 i hi' hi'').lt k e).1 (h5 _ (List.getElem_mem hi'') k e))
theorem OwnSS.below {w w' : World} {lo hi : Nat} {v : Value} {s : List (List C)} (h : OwnSS w lo hi v s) (hh : hi ≤ w.heap.size) (hb : Below w.heap.size w w') : OwnSS w' lo hi v s :=
  h.kept (fun k _ hk => hb.block k (by omega))

theorem OwnSS.row {w : World} {lo hi n cap : Nat} {ao : Option Addr} {s : List (List C)} (h : OwnSS w lo hi (.slice ao n cap) s) : RowSS w ao s := by
  obtain ⟨us, h1, h2, h3, h4, h5, h6⟩ := h
  have h2' := h2
  rcases h2.2 with ⟨e, hn⟩ | ⟨g, cap, cur, e, hg, hh, hc, hm, _⟩
  · exact .inl (List.length_eq_zero_iff.1 hn)
  · simp only [Value.slice.injEq] at e
    obtain ⟨rfl, rfl, rfl⟩ := e
    refine .inr ⟨g, 0, rfl, fun i hi' => ?_⟩
    have hi'' : i < us.length := by omega
    have e1 := h2'.cellAt i (by omega)
    have ho := h3 i hi' hi''
    rw [Nat.zero_add]
    rcases ho.2 with ⟨eu, hn⟩ | ⟨gu, cu, _, eu, _, hgb, q1, q2, _⟩
    · have ht : s[i] = [] := List.length_eq_zero_iff.1 hn
      refine ⟨none, 0, ?_, by rw [ht]; simp, by simp, .inl ht⟩
      rw [e1, List.getElem?_eq_getElem hi'', eu, ht]; rfl
    · refine ⟨some ⟨gu, 0, none⟩, cu, by rw [e1, List.getElem?_eq_getElem hi'', eu], q1, q2, ?_⟩
      rw [eu] at ho
      exact .inr ⟨gu, 0, rfl, owns_at ho rfl⟩

theorem Try.infoSl : (Try.prog.info? 24).map (fun i => (i.zero, i.size, i.bytes)) = some (some (.slice none 0 0), 1, 24) := by kernel_rfl

/-- How far toTrmCellSS has come. -/
def ToS (w : World) (s : List (List C)) (k : Nat) (wr : World) : Prop := ∃ xs us, wr.ownsRow w.heap.size 24 1 (.slice (some ⟨w.heap.size, 0, none⟩) s.length s.length) s.length xs ∧ us.length = k ∧ xs.take k = us ∧
    (∀ i, (h : i < s.length) → (h' : i < us.length) → OwnC wr w.heap.size us[i] s[i]) ∧ (us.filterMap Value.ownBlock).Nodup ∧ (∀ u ∈ us, ∀ j, u.ownBlock = some j → w.heap.size < j ∧ j < wr.heap.size) ∧ Below w.heap.size w wr

theorem toS_round {w wr w1 : World} {s : List (List C)} {k : Nat} (hk : k < s.length) (hT : ToS w s k wr) (hb1 : Below wr.heap.size wr w1)
    (ho : w1.ownsRow wr.heap.size 46 3 (.slice (some ⟨wr.heap.size, 0, none⟩) s[k].length s[k].length) s[k].length (flat s[k])) :
    (∃ a, w1.cell? ⟨w.heap.size, k, none⟩ = some a) ∧ w1.frozen? ⟨w.heap.size, k, none⟩ = false ∧
    ToS w s (k + 1) (w1.setCell ⟨w.heap.size, k, none⟩ (.slice (some ⟨wr.heap.size, 0, none⟩) s[k].length s[k].length)) := by
  obtain ⟨xs, us, h1, h2, h3, h4, h5, h6, h7⟩ := hT
  have hl : xs.length = s.length * 1 := h1.1
  have hgl := (ho.lt wr.heap.size rfl).2
  have hsz : w.heap.size < wr.heap.size := (h1.lt _ rfl).2
  have o1 := own_below h1 hb1
  have s1 := o1.stored k (.slice (some ⟨wr.heap.size, 0, none⟩) s[k].length s[k].length)
  have hblk : ∀ j, j ≠ w.heap.size → (w1.setCell ⟨w.heap.size, k, none⟩ (.slice (some ⟨wr.heap.size, 0, none⟩) s[k].length s[k].length)).heap[j]? = w1.heap[j]? := fun j hj => Below.heap_setCell _ _ _ _ hj
  refine ⟨⟨_, (o1.cellAt k (by omega)).trans (List.getElem?_eq_getElem (by omega))⟩, o1.frozenAt _, ?_⟩
  refine ⟨_, us ++ [.slice (some ⟨wr.heap.size, 0, none⟩) s[k].length s[k].length], s1.1, by simp [h2], ?_, fun i hi hi' => ?_, ?_, fun u hu j e => ?_, ?_⟩
  · rw [List.take_succ_eq_append_getElem (by simp; omega), List.getElem_set_self, List.take_set_of_le (Nat.le_refl _), h3]
  · by_cases e : i < us.length
    · rw [List.getElem_append_left e]
      refine own_block (own_below (h4 i hi e) hb1) (fun j ej => hblk j ?_)
      have := h6 _ (List.getElem_mem e) j ej
      omega
    · obtain rfl : i = k := by simp at hi'; omega
      rw [List.getElem_append_right (by omega)]
      simp only [h2, Nat.sub_self, List.getElem_cons_zero]
      refine own_lo (own_block ho (fun j ej => hblk j ?_)) (fun j ej => ?_)
      · have : wr.heap.size = j := by simpa [Value.ownBlock] using ej
        omega
      · have : wr.heap.size = j := by simpa [Value.ownBlock] using ej
        omega
  · rw [List.filterMap_append, List.nodup_append]
    refine ⟨h5, by simp [Value.ownBlock], fun a ha b hb => ?_⟩
    obtain ⟨u, hu, e⟩ := List.mem_filterMap.1 ha
    have := h6 u hu a e
    simp [Value.ownBlock] at hb
    omega
  · have hs2 : (w1.setCell ⟨w.heap.size, k, none⟩ (.slice (some ⟨wr.heap.size, 0, none⟩) s[k].length s[k].length)).heap.size = w1.heap.size := by simp
    rw [hs2]
    have := hb1.size
    rcases List.mem_append.1 hu with hu | hu
    · have := h6 u hu j e
      omega
    · simp at hu
      subst hu
      have : wr.heap.size = j := by simpa [Value.ownBlock] using e
      omega
  · exact (h7.trans (hb1.mono (by omega))).setCell (p := ⟨w.heap.size, _, none⟩) (Nat.le_refl _) _

theorem toS_end {w wr : World} {s : List (List C)} (hT : ToS w s s.length wr) : OwnSS wr w.heap.size wr.heap.size (.slice (some ⟨w.heap.size, 0, none⟩) s.length s.length) s ∧ Below w.heap.size w wr := by
  obtain ⟨xs, us, h1, h2, h3, h4, h5, h6, h7⟩ := hT
  have hl := h1.1
  have hlt : w.heap.size < wr.heap.size := (h1.lt _ rfl).2
  rw [List.take_of_length_le (by omega)] at h3
  subst h3
  refine ⟨⟨xs, h2, h1, h4, h5, fun u hu k e => (h6 u hu k e).2, fun k e => ?_⟩, h7⟩
  have : w.heap.size = k := by simpa [Value.ownBlock] using e
  omega

set_option maxRecDepth 100000 in
set_option maxHeartbeats 1000000 in
theorem toTrmCellSS_some (b off cap : Nat) (s : List (List C)) (w : World) (hm : s.length ≤ 1048576) (hm2 : ∀ x ∈ s, x.length ≤ 1048576) (hA : AtS w b off s) :
    Calls Try.prog 44 #[.slice (some ⟨b, off, none⟩) s.length cap] w fun e w' => e = .returned (.slice (some ⟨w.heap.size, 0, none⟩) s.length s.length) ∧ OwnSS w' w.heap.size w'.heap.size (.slice (some ⟨w.heap.size, 0, none⟩) s.length s.length) s ∧ Below w.heap.size w w' := by
  obtain ⟨i0, hi, hz0, hz1, hz2⟩ := info_parts Try.infoSl
  have hbytes : i0.bytes * s.length ≤ 281474976710656 := by rw [hz2]; omega
  go_enter Try.func44, Try.ntmps44
  go_wp2_with (at_make; refine wpList_make_full _ rfl _ _ 51 rfl w.heap.size 24 i0 _ 1 Try.underlying51 hi hz0 hz1 .i64 .i64 _ _ s.length rfl rfl rfl rfl hbytes (by unfold maxLen; omega) (Nat.le_refl _) ?_; intro w0 hown0 hgr0)
  have hB0 : Below w.heap.size w w0 := (Below.refl _ _).grown hgr0 (Nat.le_refl _) (fun k e => by cases e)
  go_loopw [4] (fun i wr => ∃ (k : Nat), k ≤ s.length ∧ i = .int .i64 k ∧ ToS w s k wr) (fun i _ => s.length - (intOf i).toNat)
  case atStart => exact ⟨0, Nat.zero_le _, rfl, _, [], hown0, rfl, by simp, fun i h h' => by simp at h', by simp, by simp, hB0⟩
  case round =>
    obtain ⟨k, hk, rfl, hT⟩ := hrel
    have hB : Below w.heap.size w wr := by obtain ⟨_, _, _, _, _, _, _, _, h⟩ := hT; exact h
    have HT := hide hT
    clear hT hown0 hgr0 hB0
    by_cases hlt : k < s.length
    · obtain ⟨ao, cp, c1, hc, hcm, hR⟩ := (hA.below hB) k hlt
      have hml := hm2 _ (List.getElem_mem hlt)
      have HR : Hid (∀ {w1 : World}, Below wr.heap.size wr w1 → w1.ownsRow wr.heap.size 46 3 (.slice (some ⟨wr.heap.size, 0, none⟩) s[k].length s[k].length) s[k].length (flat s[k]) → _) := fun q1 q3 => toS_round hlt (unhide HT) q1 q3
      obtain ⟨y, hy⟩ : ∃ y, y = s[k] := ⟨_, rfl⟩
      rw [← hy] at c1 hR hc hml HR
      clear hy hc hcm
      go_wp2_with fail
      refine (toTrmCellS_any ao cp y _ hml hR).mono ?_
      rintro e w1 ⟨rfl, ho, hb1⟩
      clear c1
      obtain ⟨⟨u0, d0⟩, f0, R⟩ := unhide HR hb1 ho
      have HRR := hide R
      clear R HR ho
      go_wp2
      go_roundw
      case rel => exact ⟨k + 1, by omega, by go_num, unhide HRR⟩
      case measure => simp [intOf]; omega
    · have e : k = s.length := by omega
      subst e
      go_wp2
      go_ret
      exact ⟨rfl, toS_end (unhide HT)⟩

set_option maxRecDepth 100000 in
set_option maxHeartbeats 1000000 in
theorem toTrmCellSS_none (ao : Option Addr) (cap : Nat) (w : World) :
    Calls Try.prog 44 #[.slice ao 0 cap] w fun e w' => e = .returned (.slice (some ⟨w.heap.size, 0, none⟩) 0 0) ∧ OwnSS w' w.heap.size w'.heap.size (.slice (some ⟨w.heap.size, 0, none⟩) 0 0) [] ∧ Below w.heap.size w w' := by
  obtain ⟨i0, hi, hz0, hz1, hz2⟩ := info_parts Try.infoSl
  go_enter Try.func44, Try.ntmps44
  go_wp2_with (at_make; refine wpList_make_full _ rfl _ _ 51 rfl w.heap.size 24 i0 _ 1 Try.underlying51 hi hz0 hz1 .i64 .i64 _ _ 0 rfl rfl rfl rfl (by simp) (by unfold maxLen; omega) (Nat.le_refl _) ?_; intro w0 hown0 hgr0)
  have hB0 : Below w.heap.size w w0 := (Below.refl _ _).grown hgr0 (Nat.le_refl _) (fun k e => by cases e)
  refine wp_loop_rounds 1 ?_
  rw [rounds_succ]
  go_wp2
  go_ret
  refine ⟨rfl, ?_⟩
  exact toS_end (s := []) ⟨_, [], hown0, rfl, by simp, fun i h h' => by simp at h', by simp, by simp, hB0⟩

theorem toTrmCellSS_any (ao : Option Addr) (cap : Nat) (s : List (List C)) (w : World) (hm : s.length ≤ 1048576) (hm2 : ∀ x ∈ s, x.length ≤ 1048576) (hA : RowSS w ao s) :
    Calls Try.prog 44 #[.slice ao s.length cap] w fun e w' => e = .returned (.slice (some ⟨w.heap.size, 0, none⟩) s.length s.length) ∧ OwnSS w' w.heap.size w'.heap.size (.slice (some ⟨w.heap.size, 0, none⟩) s.length s.length) s ∧ Below w.heap.size w w' := by
  rcases hA with rfl | ⟨b, off, rfl, hA⟩
  · exact toTrmCellSS_none ao cap w
  · exact toTrmCellSS_some b off cap s w hm hm2 hA
end Go.Proofs.Ytmdmgcjamjgpiaa
