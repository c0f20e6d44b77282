/- The walk of TrmMake. -/
import Derived.Test.YtmiofbifffnocaaQT5SH0SH1SH2T8
namespace Go.Proofs.Ytmiofbifffnocaa
open Go.RowKit Go.Shelf
set_option linter.unusedVariables false
set_option linter.unusedSimpArgs false

/-- From cell 'off' of block b on lie slices that lead to places. -/
def AtS (w : World) (b off : Nat) (ts : List (List C)) : Prop :=
  ∀ i, (h : i < ts.length) → ∃ ao cap, w.cell? ⟨b, off + i, none⟩ = some (.slice ao ts[i].length cap) ∧ ts[i].length ≤ cap ∧ cap ≤ maxLen ∧ Row w ao ts[i]

theorem AtS.below {w w' : World} {b off : Nat} {ts : List (List C)} (h : AtS w b off ts) (hb : Below w.heap.size w w') : AtS w' b off ts := fun i hi => by
  obtain ⟨ao, cap, h1, h2, h3, h4⟩ := h i hi
  exact ⟨ao, cap, (hb.cell (p := ⟨b, off + i, none⟩) (World.block_lt_of_cell? w _ h1)).trans h1, h2, h3, h4.below hb⟩

/-- What TrmMake is of a name and places. -/
def makeOf (s : ByteArray) (ts : List (List C)) : List C := if ∀ t ∈ ts, trm t = true then listed (⟨3, ts.length, s⟩ :: ts.flatten) else []

theorem Tre.fuel {S : Nat → Prop} {W : World} : ∀ {f g p : Nat} {z : List (Nat × C)}, Tre S W f p z → f ≤ g → Tre S W g p z
  | f + 1, g + 1, p, z, ⟨c, ks, ao, cap, e, hp, hl, hn, hr, hs⟩, h => ⟨c, ks, ao, cap, e, hp, hl, hn, hr, fun k hk => (hs k hk).fuel (by omega)⟩

theorem makeOf_bad {s : ByteArray} {ts : List (List C)} (h : okC ⟨3, ts.length, s⟩ = false) : makeOf s ts = [] := by
  unfold makeOf
  split
  · unfold listed
    rw [if_neg]
    intro h'
    have := ((trm_iff _).1 h').2.2.1 _ (List.mem_cons_self)
    rw [h] at this; cases this
  · rfl
theorem makeOf_no {s : ByteArray} {ts : List (List C)} {t : List C} (h : t ∈ ts) (hn : trm t = false) : makeOf s ts = [] := by
  unfold makeOf
  rw [if_neg (fun h' => by have := h' t h; rw [hn] at this; cases this)]
theorem makeOf_all {s : ByteArray} {ts : List (List C)} (h : ∀ t ∈ ts, trm t = true) : makeOf s ts = listed (⟨3, ts.length, s⟩ :: ts.flatten) := by
  unfold makeOf
  rw [if_pos h]

set_option maxRecDepth 100000 in
set_option maxHeartbeats 4000000 in
theorem TrmMake_some (b off cap : Nat) (s : ByteArray) (ts : List (List C)) (w : World) (hs : s.size ≤ maxLen) (hl3 : ts.length ≤ 1048576) (hA : AtS w b off ts) (hF : ∀ t ∈ ts, Fit t) (hm : ∀ t ∈ ts, t.length ≤ maxLen) :
    Calls Try.prog 16 #[.string s, .slice (some ⟨b, off, none⟩) ts.length cap] w fun e w' => ∃ v, e = .returned v ∧ OwnC w' w.heap.size v (makeOf s ts) ∧ Below w.heap.size w w' := by
  have H := hide (fun w1 => cellOk_any ⟨3, ts.length, s⟩ w1 hs)
  cases hok : okC ⟨3, ts.length, s⟩ with
  | false =>
    rw [hok] at H
    have HE := hide (makeOf_bad hok)
    go_enter Try.func16, Try.ntmps16
    go_wp2_with (go_at_call 53; refine (unhide H _).mono ?_; rintro e w1 ⟨rfl, hb1⟩)
    go_ret
    exact ⟨_, rfl, by rw [unhide HE]; exact World.ownsRow_nil _ _ _ _, bstep (cell_below _ _) hb1⟩
  | true =>
    rw [hok] at H
    have hl3' : ts.length ≤ 3 := by have := (ari_ok hok).2; simp [ari] at this; omega
    obtain ⟨i0, hi, hz0, hz1, hz2⟩ := info_parts (show (Try.prog.info? 82).map (fun i => (i.zero, i.size, i.bytes)) = some (some (.pointer none), 1, 8) by kernel_rfl)
    have HF := hide hF
    have HM := hide hm
    clear hF hm hok
    go_enter Try.func16, Try.ntmps16
    go_wp2_with (go_at_call 53; refine (unhide H _).mono ?_; rintro e w1 ⟨rfl, hb1⟩)
    have hb0 := cell_below w (.cells #[.int .i64 3, .int .i64 ts.length, .string s, .slice none 0 0] 86)
    have hn0 : Node (w.alloc (.cells #[.int .i64 3, .int .i64 ts.length, .string s, .slice none 0 0] 86)) w.heap.size ⟨3, ts.length, s⟩ (.slice none 0 0) := World.alloc_heap_new w _
    have hK1 : Kids w 40 ⟨3, ts.length, s⟩ ts 0 (.slice none 0 0) [] w1 := ⟨by simp, rfl, (hb1.block _ hn0.lt).trans hn0, World.ownsRow_nil _ _ _ _, by simp, by simp, bstep hb0 hb1⟩
    clear hn0 H
    go_loopw [23] (fun i wr => ∃ (k : Nat) (v : Value) (zs : List (Nat × List (Nat × C))), k ≤ ts.length ∧ i = .int .i64 k ∧ (∀ t ∈ ts.take k, trm t = true) ∧ Kids w 40 ⟨3, ts.length, s⟩ ts k v zs wr) (fun i _ => ts.length - (intOf i).toNat)
    case atStart => exact ⟨0, _, [], Nat.zero_le _, rfl, by simp, hK1⟩
    case round =>
      obtain ⟨k, v, zs, hk, rfl, hall, hK⟩ := hrel
      have HALL := hide hall
      clear hall hK1
      obtain ⟨h1, h2, h3, h4, h5, h6, h7⟩ := id hK
      have hsz := h7.size
      have hPl := h3.lt
      have HK := hide hK
      have HN := hide h3
      have HO := hide h4
      have hB := h7
      clear h1 h2 h3 h4 h5 h6 h7 hK
      by_cases hlt : k < ts.length
      · obtain ⟨ao, cp, hcl, hcap, hcm, hR⟩ := (hA.below hB) k hlt
        have hFk := unhide HF _ (List.getElem_mem hlt)
        have hMk := unhide HM _ (List.getElem_mem hlt)
        have HNO := hide (fun (hn : trm (ts[k]'hlt) = false) => makeOf_no (s := s) (List.getElem_mem hlt) hn)
        have HYE := hide (fun (hy : trm (ts[k]'hlt) = true) => treeOf_yes wr.heap.size ao cp (ts[k]'hlt) wr hcap hcm (Nat.le_refl _) hR hFk hy)
        have HNN := hide (fun (hn : trm (ts[k]'hlt) = false) => treeOf_no ao cp (ts[k]'hlt) wr hMk hR hFk hn)
        have HTK : Hid (∀ {p g' cap' : Nat} {z : List (Nat × C)} {w2 w3 : World}, Below wr.heap.size wr w2 → Tre (fun b => wr.heap.size ≤ b ∧ b < w2.heap.size) w2 40 p z → z.map (·.2) = ts[k]'hlt → (z.map (·.1)).Nodup → w3.ownsRow w.heap.size 82 1 (.slice (some ⟨g', 0, none⟩) (k + 1) cap') (k + 1) (zs.map (fun x => .pointer (some ⟨x.1, 0, none⟩)) ++ [.pointer (some ⟨p, 0, none⟩)]) → (w2.alloc (.cells #[.pointer (some ⟨p, 0, none⟩)] 82)).grownBy w3 v.ownBlock → (v.ownBlock = some g' ∨ g' = w2.heap.size + 1) → Kids w 40 ⟨3, ts.length, s⟩ ts (k + 1) (.slice (some ⟨g', 0, none⟩) (k + 1) cap') (zs ++ [(p, z)]) (w3.setCell ⟨w.heap.size, 3, none⟩ (.slice (some ⟨g', 0, none⟩) (k + 1) cap'))) :=
          fun q1 q2 q3 q4 q5 q6 q7 => (kids_step (unhide HK) hlt q1 q2 q3 q4 q5 q6 q7).1
        have HTA : Hid (trm (ts[k]'hlt) = true → ∀ t ∈ ts.take (k + 1), trm t = true) := fun hy t ht => by
          rw [List.take_succ_eq_append_getElem hlt] at ht
          rcases List.mem_append.1 ht with ht | ht
          · exact unhide HALL t ht
          · simp at ht; rw [ht]; exact hy
        obtain ⟨t, ht⟩ : ∃ t, t = ts[k]'hlt := ⟨_, rfl⟩
        rw [← ht] at hcl hR hFk hMk HNO HYE HNN HTK HTA hcap
        clear ht
        cases hy : trm t with
        | false =>
          have H5 := hide (unhide HNN hy)
          have HE := hide (unhide HNO hy)
          clear hy HNN HNO HYE HTK HTA hR
          go_wp2_with (go_at_call 44; refine (unhide H5).mono ?_; rintro e w2 ⟨rfl, hb2⟩)
          go_ret
          exact ⟨_, rfl, by rw [unhide HE]; exact World.ownsRow_nil _ _ _ _, bstep hB hb2⟩
        | true =>
          have H5 := hide (unhide HYE hy)
          have ht40 := (trm_len hy).2
          have HTA' := hide (unhide HTA hy)
          clear hy HNN HNO HYE HTA hR
          go_wp2_with (first
            | (go_at_call 44; refine (unhide H5).mono ?_; clear H5; rintro e w2 ⟨p, z, rfl, hz, hnd, hT, hb2⟩; have hq := hide hz; have hq2 := hide hnd; have hq3 := hide (hT.fuel ht40); clear hz hnd hT; have hsz2 := hb2.size; have hc3 : w2.cell? ⟨w.heap.size, 3, none⟩ = some v := Node.cell ((hb2.block _ hPl).trans (unhide HN)))
            | (at_builtin; refine wpList_append_lies _ rfl (.tmp 35) (.tmp 37) 84 rfl w.heap.size 82 i0 _ 1 8 Try.underlying84 hi hz0 hz1 hz2 rfl (by decide) v k _ rfl (World.ownsRow.alloc (own_below (unhide HO) hb2) _) ⟨w2.heap.size, 0, none⟩ 1 1 [.pointer (some ⟨p, 0, none⟩)] rfl rfl (cell_one_new _ _ _) (by simp [Value.oneCell']) (by omega) (by unfold maxLen; omega) (by omega) (by simp; omega) (w2.heap.size + 1) (by simp) ?_; intro g' cap' w3 hown' hgrow hat hgl; have hn3 := kids_node (unhide HK) hb2 hgrow; have hs3 := hn3.cell; have hf3 := hn3.frozen; have HST := hide (unhide HTK hb2 (unhide hq3) (unhide hq) (unhide hq2) hown' hgrow hat); clear hn3 hown' hgrow hat hgl))
          go_roundw
          case rel => exact ⟨k + 1, _, _, by omega, by go_num, unhide HTA', unhide HST⟩
          case measure => simp [intOf]; omega
      · have e : k = ts.length := by omega
        subst e
        have hall := unhide HALL
        rw [List.take_length] at hall
        obtain ⟨z, hz, hnd, hT⟩ := kids_end (unhide HK) hl3' (by simp [ari])
        have hfl : ∀ us : List (List C), (∀ t ∈ us, trm t = true) → us.flatten.length ≤ us.length * 40 := by
          intro us
          induction us with
          | nil => intro _; simp
          | cons u us ih =>
            intro hu
            have h1 := (trm_len (hu u (by simp))).2
            have h2 := ih (fun q hq => hu q (by simp [hq]))
            rw [List.flatten_cons, List.length_append, List.length_cons]
            omega
        have HE := hide (makeOf_all (s := s) hall)
        have HL := hide (list_any 41 w.heap.size z (⟨3, ts.length, s⟩ :: ts.flatten) (hide hz) wr (hT.shp (fun b hb => hb.2)) (hT.held (fun b hb => hb.2)) (by
          have h1 := congrArg List.length hz
          rw [List.length_map, List.length_cons] at h1
          have h2 := hfl ts hall
          omega) (fun c hc => by
          rcases List.mem_cons.1 hc with rfl | hc
          · exact hs
          · obtain ⟨t, ht, hc⟩ := List.mem_flatten.1 hc
            exact unhide HF t ht c hc))
        clear hz hnd hT hall hfl
        go_wp2_with (go_at_call 54; refine (unhide HL).mono ?_; rintro e w2 ⟨v2, rfl, hO, hb2⟩)
        go_ret
        exact ⟨_, rfl, by rw [unhide HE]; exact OwnC.base hO hB.size, bstep hB hb2⟩
end Go.Proofs.Ytmiofbifffnocaa
