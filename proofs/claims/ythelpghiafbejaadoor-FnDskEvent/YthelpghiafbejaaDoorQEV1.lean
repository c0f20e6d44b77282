/- Words in memory; the specification cuts a line. -/
import Derived.Test.YthelpghiafbejaaDoorQEV0
import Derived.Test.YthelpghiafbejaaDoorQSX2
import Derived.Test.YthelpghiafbejaaDoorQW11W12
import Derived.Test.YthelpghiafbejaaDoorQYW1YB1
import Derived.Test.YthelpghiafbejaaDoorQD1
namespace Go.Proofs.YthelpghiafbejaaDoor
open Go.RowKit
set_option linter.unusedVariables false
set_option linter.unusedSimpArgs false
attribute [-go_sem] Go.Builtin.append_

theorem Tryd.infoStr : (Tryd.prog.info? 9).map (fun i => (i.zero, i.size, i.bytes)) = some (some (.string ByteArray.empty), 1, 16) := by kernel_rfl

/-- Words as they lie. -/
def strs (ws : List (List UInt8)) : List Value := ws.map fun w => .string (mkS w)
def OwnS (w : World) (base : Nat) (v : Value) (ws : List (List UInt8)) : Prop := w.ownsRow base 9 1 v ws.length (strs ws)
def AtW (w : World) (b off : Nat) (ws : List (List UInt8)) : Prop := ∀ i, (h : i < ws.length) → w.cell? ⟨b, off + i, none⟩ = some (.string (mkS ws[i]))
theorem AtW.below {w w' : World} {b off : Nat} {ws : List (List UInt8)} (h : AtW w b off ws) (hb : Below w.heap.size w w') : AtW w' b off ws := fun i hi =>
  (hb.cell (p := ⟨b, off + i, none⟩) (World.block_lt_of_cell? w ⟨b, _, none⟩ (h i hi))).trans (h i hi)
theorem strs_get (ws : List (List UInt8)) (i : Nat) (h : i < ws.length) : (strs ws)[i]? = some (.string (mkS ws[i])) := by simp [strs, h]
theorem OwnS.shape {w : World} {base : Nat} {v : Value} {ws : List (List UInt8)} (h : OwnS w base v ws) (hn : ws ≠ []) : ∃ g cap, v = .slice (some ⟨g, 0, none⟩) ws.length cap ∧ AtW w g 0 ws ∧ base ≤ g ∧ g < w.heap.size := by
  have h' := h
  rcases h.2 with ⟨e, hl⟩ | ⟨g, cap, cur, e, hb, hg, _⟩
  · exact absurd (List.length_eq_zero_iff.1 hl) hn
  · subst e
    refine ⟨g, cap, rfl, fun i hi => ?_, hb, (Array.getElem?_eq_some_iff.1 hg).1⟩
    have e0 := World.ownsRow.cellAt h' i (by omega)
    rw [Nat.zero_add]
    exact e0.trans (strs_get ws i hi)
theorem OwnS.below {w w1 : World} {base : Nat} {v : Value} {ws : List (List UInt8)} (h : OwnS w base v ws) (hb : Below w.heap.size w w1) : OwnS w1 base v ws := own_below h hb

/-- The run of an append of one word. -/
theorem app_oneS (w : World) (base : Nat) (v : Value) (ws : List (List UInt8)) (x : List UInt8) (hO : OwnS w base v ws) (hb : base ≤ w.heap.size) (hl : ws.length ≤ 2000000) :
    ∃ v' w', (Builtin.append_ #[32, 32] 32 #[v, .slice (some ⟨w.heap.size, 0, none⟩) 1 1]).run Tryd.prog (w.alloc (.cells #[.string (mkS x)] 9)) = .ok v' w' ∧ OwnS w' base v' (ws ++ [x]) ∧ Below base w w' := by
  obtain ⟨i0, hi, hz0, hz1, hz2⟩ := info_parts Tryd.infoStr
  obtain ⟨g, cap, w1, hr, ho, hg, hat, _⟩ := run_append_lies (P := Tryd.prog) (w.alloc (.cells #[.string (mkS x)] 9)) 32 32 base 9 i0 _ 1 16 Tryd.underlying32 hi hz0 hz1 hz2 rfl (by decide) v ws.length _ (World.ownsRow.alloc hO _) ⟨w.heap.size, 0, none⟩ 1 1 [.string (mkS x)] rfl (cell_one_new _ _ _) (by intro u hu; simp at hu; subst hu; rfl) (by omega) (by unfold maxLen; omega) (by omega) (by simp; omega) _ rfl
  refine ⟨_, _, hr, ?_, ?_⟩
  · unfold OwnS
    rw [show (ws ++ [x]).length = ws.length + 1 by simp, show strs (ws ++ [x]) = strs ws ++ [.string (mkS x)] by simp [strs]]
    exact ho
  · have h1 : Below base w (w.alloc (.cells #[.string (mkS x)] 9)) := (cell_below w _).mono hb
    exact h1.grown hg (by simp; omega) (fun k e => (World.ownsRow.lt hO k e).1)

theorem byte_blank {c : UInt8} : ((c.toNat : Int) = 32) ↔ c = 32 := by
  constructor
  · intro h
    apply UInt8.toNat_inj.1
    have : c.toNat = 32 := by omega
    rw [this]; rfl
  · intro h; subst h; rfl
theorem mkS_app (a b : List UInt8) : mkS (a ++ b) = mkS a ++ mkS b := by
  refine bl_inj ?_
  simp [bl, mkS, ByteArray.data_append]

set_option maxRecDepth 100000 in
set_option maxHeartbeats 2000000 in
theorem l3Words_any (l : List UInt8) (hl : l.length ≤ 1048576) (w : World) :
    Calls Tryd.prog 10 #[.string (mkS l)] w fun e w' => ∃ v, e = .returned v ∧ OwnS w' w.heap.size v (cutW l) ∧ Below w.heap.size w w' := by
  have hs := mkS_size l
  go_enter Tryd.func10, Tryd.ntmps10
  go_wp2
  go_loopw [3, 4, 5] (fun ov sv iv wr => ∃ (i : Nat) (out : List (List UInt8)) (cur : List UInt8), iv = .int .i64 i ∧ sv = .string (mkS cur) ∧ OwnS wr w.heap.size ov out ∧ i ≤ l.length ∧ cur.length ≤ i ∧ out.length ≤ i ∧ out ++ preW cur (cutW (l.drop i)) = cutW l ∧ Below w.heap.size w wr) (fun _ _ iv _ => l.length - (intOf iv).toNat)
  case atStart =>
    refine ⟨0, [], [], rfl, rfl, ?_, Nat.zero_le _, Nat.le_refl _, Nat.le_refl _, ?_, cell_below _ _⟩
    · exact World.ownsRow_made w #[] 0 (Nat.le_refl _) (by simp [maxLen]) rfl
    · rw [List.drop_zero, preW_nil (cutW_ne l)]; rfl
  case round =>
    obtain ⟨i, out, cur, rfl, rfl, hO, hi, hcl, hol, hm, hB⟩ := hrel
    generalize wr = wm at *
    by_cases hlt : i < l.length
    · have hget : (mkS l).data[i]? = some l[i] := by simp [mkS, hlt]
      have hget2 : (mkS l)[i]'(by rw [hs]; exact hlt) = l[i] := by
        show (mkS l).data[i]'_ = _
        simp [mkS]
      have hd : l.drop i = l[i] :: l.drop (i + 1) := List.drop_eq_getElem_cons hlt
      obtain ⟨c, hc⟩ : ∃ c, c = l[i] := ⟨_, rfl⟩
      rw [← hc] at hget hget2 hd
      rw [hd] at hm
      by_cases hb : c = 32
      · subst hb
        have HM := hide (show (out ++ [cur]) ++ preW [] (cutW (l.drop (i + 1))) = cutW l from by rw [← hm, cutW_blank, preW_nil (cutW_ne _)]; simp [preW])
        obtain ⟨v', w3, hr, hO3, hb3⟩ := app_oneS wm w.heap.size _ out cur hO hB.size (by omega)
        have HO := hide (And.intro hO3 (hB.trans hb3))
        clear hO hB hm hd hc hO3 hb3
        go_wp2
        go_roundw
        case rel => exact ⟨i + 1, out ++ [cur], [], by go_num, rfl, (unhide HO).1, by omega, by simp, by simp; omega, unhide HM, (unhide HO).2⟩
        case measure => simp [intOf]; omega
      · have HM := hide (show out ++ preW (cur ++ [c]) (cutW (l.drop (i + 1))) = cutW l from by rw [← hm, cutW_other hb, preW_preW])
        have hcb : ¬ ((c.toNat : Int) = 32) := fun e => hb (byte_blank.1 e)
        have HO := hide (And.intro hO hB)
        have hex : (mkS l).extract i (i + 1) = mkS [c] := by
          rw [mkS_cut, hc]
          congr 1
          rw [List.take_succ_eq_append_getElem hlt, List.drop_append_of_le_length (by simp; omega), List.drop_eq_nil_of_le (by simp; omega)]
          rfl
        have hcat : ¬ ((mkS cur).size + (mkS [c]).size > 9223372036854775807) := by rw [mkS_size, mkS_size]; simp; omega
        have q1 : (0 : Int) ≤ (i : Int) := by omega
        have q3 : (i : Int) ≤ (i : Int) + 1 := by omega
        have q4 : (i : Int) + 1 ≤ (l.length : Int) := by omega
        have HS := hide (mkS_app cur [c])
        clear hO hB hm hd hc hb
        go_wp2
        go_roundw
        case rel => exact ⟨i + 1, out, cur ++ [c], by go_num, by rw [unhide HS], (unhide HO).1, by omega, by simp; omega, by omega, unhide HM, (unhide HO).2⟩
        case measure => simp [intOf]; omega
    · have hie : i = l.length := by omega
      rw [hie, List.drop_length] at hm
      have HM := hide (show out ++ [cur] = cutW l from by rw [← hm]; simp [cutW, preW])
      obtain ⟨v', w3, hr, hO3, hb3⟩ := app_oneS wm w.heap.size _ out cur hO hB.size (by omega)
      have HO := hide (And.intro hO3 (hB.trans hb3))
      clear hO hB hm hO3 hb3
      go_wp2
      go_ret
      exact ⟨v', rfl, by rw [← unhide HM]; exact (unhide HO).1, (unhide HO).2⟩

theorem l9Names_any (w : World) : Calls Tryd.prog 22 #[] w fun e w' => e = .returned (.slice (some ⟨w.heap.size, 0, none⟩) 9 9) ∧ AtW w' w.heap.size 0 evNames ∧ Below w.heap.size w w' := by
  have hA : AtW (w.alloc (.cells (strs evNames).toArray 9)) w.heap.size 0 evNames := fun i hi => by
    rw [Nat.zero_add, World.cell?_alloc_at _ _ _ _ rfl]
    show (strs evNames).toArray[i]? = _
    simp [strs, hi]
  have HA := hide (And.intro hA (cell_below w (.cells (strs evNames).toArray 9)))
  clear hA
  go_enter Tryd.func22, Tryd.ntmps22
  go_wp2
  go_ret
  exact ⟨rfl, (unhide HA).1, (unhide HA).2⟩
theorem evKind_at {k : Nat} {s : List UInt8} (h : 1 ≤ k) (hk : k < 9) (hs : evNames[k]'(by simp [evNames]; omega) = s) : evKind s = k := by
  have : k = 1 ∨ k = 2 ∨ k = 3 ∨ k = 4 ∨ k = 5 ∨ k = 6 ∨ k = 7 ∨ k = 8 := by omega
  rcases this with rfl | rfl | rfl | rfl | rfl | rfl | rfl | rfl <;> subst hs <;> rfl
theorem evKind_no {s : List UInt8} (h : ∀ j, 1 ≤ j → (hj : j < 9) → evNames[j]'(by simp [evNames]; omega) ≠ s) : evKind s = 0 := by
  unfold evKind
  rw [if_neg (fun e => h 1 (by omega) (by omega) e.symm), if_neg (fun e => h 2 (by omega) (by omega) e.symm), if_neg (fun e => h 3 (by omega) (by omega) e.symm), if_neg (fun e => h 4 (by omega) (by omega) e.symm), if_neg (fun e => h 5 (by omega) (by omega) e.symm), if_neg (fun e => h 6 (by omega) (by omega) e.symm), if_neg (fun e => h 7 (by omega) (by omega) e.symm), if_neg (fun e => h 8 (by omega) (by omega) e.symm)]

set_option maxRecDepth 100000 in
set_option maxHeartbeats 1000000 in
theorem l9Kind_any (s : List UInt8) (w : World) :
    Calls Tryd.prog 11 #[.string (mkS s)] w fun e w' => e = .returned (.int .i64 (evKind s : Nat)) ∧ Below w.heap.size w w' := by
  have HN := hide (l9Names_any w)
  go_enter Tryd.func11, Tryd.ntmps11
  go_wp2_with fail
  refine (unhide HN).mono ?_
  rintro e w1 ⟨rfl, hA, hb1⟩
  have HA := hide hA
  have HB := hide hb1
  clear HN hA hb1
  go_wp2
  go_loopw [4] (fun iv wr => ∃ (k : Nat), iv = .int .i64 k ∧ 1 ≤ k ∧ k ≤ 9 ∧ (∀ j, 1 ≤ j → (hj : j < 9) → j < k → evNames[j]'(by simp [evNames]; omega) ≠ s) ∧ wr = w1) (fun iv _ => 9 - (intOf iv).toNat)
  case atStart => exact ⟨1, rfl, Nat.le_refl _, by omega, fun j h1 h9 h2 => by omega, rfl⟩
  case round =>
    obtain ⟨k, rfl, hk1, hk9, hno, hwr⟩ := hrel
    subst hwr
    have HNO := hide hno
    clear hno
    by_cases hlt : k < 9
    · have hc := unhide HA k (by simp [evNames]; omega)
      rw [Nat.zero_add] at hc
      obtain ⟨x, hx⟩ : ∃ x, x = evNames[k]'(by simp [evNames]; omega) := ⟨_, rfl⟩
      rw [← hx] at hc
      have HX := hide hx
      clear hx
      by_cases he : x = s
      · subst he
        have HE := hide (show evKind x = k from evKind_at hk1 hlt (unhide HX).symm)
        have heq : ((mkS x).toList == (mkS x).toList) = true := by simp
        go_wp2
        go_ret
        exact ⟨by rw [unhide HE]; rfl, unhide HB⟩
      · have heq := text_ne he
        have HE := hide (fun (j : Nat) (h1 : 1 ≤ j) (h9 : j < 9) (hj : j < k + 1) => show evNames[j]'(by simp [evNames]; omega) ≠ s from by
          by_cases e : j = k
          · subst e; rw [← unhide HX]; exact he
          · exact unhide HNO j h1 h9 (by omega))
        clear he
        go_wp2
        go_roundw
        case rel => exact ⟨k + 1, by go_num, by omega, by omega, unhide HE, by first | rfl | trivial⟩
        case measure => simp [intOf]; omega
    · have HE := hide (show evKind s = 0 from evKind_no (fun j h1 h9 => unhide HNO j h1 h9 (by omega)))
      go_wp2
      go_ret
      exact ⟨by rw [unhide HE]; rfl, unhide HB⟩

set_option maxRecDepth 100000 in
set_option maxHeartbeats 1000000 in
theorem l9Num_any (s : List UInt8) (hl : s.length ≤ 1000000000) (w : World) :
    Calls Tryd.prog 12 #[.string (mkS s)] w fun e w' => e = .returned (.int .i64 (spNumW s)) ∧ w' = w := by
  have hs := mkS_size s
  have HD := hide (show Calls Tryd.prog 23 #[.string (mkS s), .int .i64 0] w _ from digits_any s 0 (Nat.zero_le _) hl w)
  go_enter Tryd.func12, Tryd.ntmps12
  go_wp2_with fail
  refine (unhide HD).mono ?_
  rintro e w1 ⟨j, rfl, _, hj, hh, rfl⟩
  obtain ⟨ht, _⟩ := hh
  rw [List.drop_zero, List.drop_zero] at ht
  have htl : (s.takeWhile dig).length = j := by rw [ht]; simp; omega
  clear HD
  by_cases he : j = s.length
  · have hall : s.takeWhile dig = s := by rw [ht, he, List.take_length]
    have HN := hide (num_any s (fun b hb => by
      have h2 := List.all_takeWhile (p := dig) (l := s)
      rw [List.all_eq_true, hall] at h2
      exact h2 b hb) hl w1)
    have HE := hide (show spNumW s = spNum s from by unfold spNumW; rw [if_neg (by rw [hall]; simp)])
    clear ht htl hall hj
    subst he
    go_wp2_with fail
    refine (unhide HN).mono ?_
    rintro e w2 ⟨rfl, rfl⟩
    go_wp2
    go_ret
    exact ⟨by rw [unhide HE]; rfl, rfl⟩
  · have HE := hide (show spNumW s = -1 from by unfold spNumW; rw [if_pos (by rw [htl]; exact he)])
    have hne : ((j : Int) == (s.length : Int)) = false := beq_eq_false_iff_ne.2 (by omega)
    have hne2 : ¬ (j = s.length) := he
    clear ht htl
    go_wp2
    go_ret
    exact ⟨by rw [unhide HE]; rfl, rfl⟩
end Go.Proofs.YthelpghiafbejaaDoor
