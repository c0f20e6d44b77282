/- The specification: a term's text. -/
import Derived.Test.YtjjpmlcaapedhaaDoorQD6L1TX2
import Derived.Test.YtjjpmlcaapedhaaDoorQMem2Mem3W9W11W12
import Derived.Test.YtjjpmlcaapedhaaDoorQYW1YB1YB2W2
namespace Go.Proofs.YtjjpmlcaapedhaaDoor
open Go.RowKit
set_option linter.unusedVariables false
set_option linter.unusedSimpArgs false
attribute [-go_sem] Go.Builtin.append_

theorem closeB_nil (s : ByteArray) : closeB s ([] : List Int).reverse = (s, []) := rfl
theorem closeB_one (s : ByteArray) (z : List Int) : closeB s (z ++ [1]).reverse = closeB (s ++ rpB) z.reverse := by simp [closeB]
theorem closeB_more (s : ByteArray) (z : List Int) {n : Int} (h : n ≠ 1) : closeB s (z ++ [n]).reverse = (s ++ cmB, (z ++ [n - 1]).reverse) := by simp [closeB, h]

/-- The run of an append of one number. -/
theorem app_oneI (w : World) (base : Nat) (v : Value) (z : List Int) (x : Int) (hO : OwnI w base v z) (hb : base ≤ w.heap.size) (hl : z.length ≤ 1048576) :
    ∃ v' w', (Builtin.append_ #[47, 47] 47 #[v, .slice (some ⟨w.heap.size, 0, none⟩) 1 1]).run Tryd.prog (w.alloc (.cells #[.int .i64 x] 3)) = .ok v' w' ∧ OwnI w' base v' (z ++ [x]) ∧ Below base w w' := by
  obtain ⟨i0, hi, hz0, hz1, hz2⟩ := info_parts Tryd.infoInt
  obtain ⟨g, cap, w1, hr, ho, hg, hat, _⟩ := run_append_lies (P := Tryd.prog) (w.alloc (.cells #[.int .i64 x] 3)) 47 47 base 3 i0 _ 1 8 Tryd.underlying47 hi hz0 hz1 hz2 rfl (by decide) v z.length _ (World.ownsRow.alloc hO _) ⟨w.heap.size, 0, none⟩ 1 1 [.int .i64 x] rfl (cell_one_new _ _ _) (by intro u hu; simp at hu; subst hu; rfl) (by omega) (by unfold maxLen; omega) (by omega) (by simp; omega) _ rfl
  refine ⟨_, _, hr, ?_, ?_⟩
  · unfold OwnI
    rw [show (z ++ [x]).length = z.length + 1 by simp, show nums (z ++ [x]) = nums z ++ [.int .i64 x] by simp [nums]]
    exact ho
  · have h1 : Below base w (w.alloc (.cells #[.int .i64 x] 3)) := (cell_below w _).mono hb
    exact h1.grown hg (by simp; omega) (fun k e => (World.ownsRow.lt hO k e).1)
theorem ownI_take {w : World} {base cap : Nat} {ao : Option Addr} {z : List Int} {n : Int} (h : OwnI w base (.slice ao (z.length + 1) cap) (z ++ [n])) : OwnI w base (.slice ao z.length cap) z := by
  refine ⟨by simp [nums], ?_⟩
  rcases h.2 with ⟨e, hn⟩ | ⟨g, cap', cur, e, hb, hg, hc, hm, hs, ht⟩
  · simp at hn
  · simp only [Value.slice.injEq] at e
    obtain ⟨rfl, _, rfl⟩ := e
    refine .inr ⟨g, cap, cur, rfl, hb, hg, by simp at hc; omega, hm, hs, ?_⟩
    have : nums z = (nums (z ++ [n])).take (z.length * 1) := by simp [nums]
    rw [this, ← ht, List.take_take]
    congr 1
    simp
theorem ownI_top {w : World} {base cap : Nat} {ao : Option Addr} {z : List Int} {n : Int} (h : OwnI w base (.slice ao (z.length + 1) cap) (z ++ [n])) : ∃ g, ao = some ⟨g, 0, none⟩ ∧ base ≤ g ∧ w.cell? ⟨g, z.length, none⟩ = some (.int .i64 n) ∧ w.frozen? ⟨g, z.length, none⟩ = false ∧ z.length + 1 ≤ cap := by
  rcases h.2 with ⟨e, hn⟩ | ⟨g, cap', cur, e, hb, hg, hc, hm, hs, ht⟩
  · simp at hn
  · simp only [Value.slice.injEq] at e
    obtain ⟨rfl, _, rfl⟩ := e
    have hc2 : z.length + 1 ≤ cap := by simp at hc; omega
    have hx : cur[z.length]? = some (.int .i64 n) := by
      have h1 : (cur.toList.take ((z ++ [n]).length * 1))[z.length]? = some (.int .i64 n) := by rw [ht]; simp [nums]
      rw [List.getElem?_take] at h1
      simpa using h1
    refine ⟨g, rfl, hb, ?_, ?_, hc2⟩
    · simp only [World.cell?]; rw [hg]; simpa using hx
    · simp only [World.frozen?]; rw [hg]; simp
theorem ownI_set {w : World} {base cap g : Nat} {z : List Int} {n m : Int} (h : OwnI w base (.slice (some ⟨g, 0, none⟩) (z.length + 1) cap) (z ++ [n])) : OwnI (w.setCell ⟨g, z.length, none⟩ (.int .i64 m)) base (.slice (some ⟨g, 0, none⟩) (z.length + 1) cap) (z ++ [m]) := by
  have h' : w.ownsRow base 3 1 (.slice (some ⟨g, 0, none⟩) (z.length + 1) cap) (z.length + 1) (nums (z ++ [n])) := by
    have := h
    unfold OwnI at this
    rwa [show (z ++ [n]).length = z.length + 1 by simp] at this
  have := (World.ownsRow.stored h' z.length (.int .i64 m)).1
  unfold OwnI
  rw [show (z ++ [m]).length = z.length + 1 by simp]
  have e : (nums (z ++ [n])).set z.length (.int .i64 m) = nums (z ++ [m]) := by simp [nums, List.set_append]
  rw [e] at this
  exact this
def lenVx : Value → Nat
  | .slice _ n _ => n
  | _ => 0
theorem last_of {z : List Int} (h : 0 < z.length) : ∃ z' n, z = z' ++ [n] := by
  rcases List.eq_nil_or_concat z with rfl | ⟨z', n, rfl⟩
  · simp at h
  · exact ⟨z', n, by simp⟩

set_option maxRecDepth 100000 in
set_option maxHeartbeats 4000000 in
theorem specTrmText_some (b off cap : Nat) (t : List C) (w : World) (hA : At w b off t) (ht : trm t = true) (hcap : t.length ≤ maxLen) :
    Calls Tryd.prog 10 #[.slice (some ⟨b, off, none⟩) t.length cap] w fun e w' => e = .returned (.string (textOf wordB t)) ∧ Below w.heap.size w w' := by
  have hl := (trm_len ht).2
  have hok := ((trm_iff t).1 ht).2.2.1
  have hF : Fit t := fun c hc => by have := (okC_parts (hok c hc)).2.2.2; unfold maxLen; omega
  have HTO := hide (specTrmOk_any (some ⟨b, off, none⟩) cap t w hcap (.inr ⟨b, off, rfl, hA⟩) hF)
  rw [ht] at HTO
  have HOK := hide hok
  have HA := hide hA
  clear hok hF hA ht hcap
  go_enter Tryd.func10, Tryd.ntmps10
  go_wp2_with fail
  refine (unhide HTO).mono ?_
  rintro e w1 ⟨rfl, hb1⟩
  clear HTO
  go_wp2
  go_loopw [3, 4, 5] (fun sv ov kv wr => ∃ (i : Nat) (s : ByteArray) (z : List Int), kv = .int .i64 i ∧ sv = .string s ∧ OwnI wr w.heap.size ov z ∧ i ≤ t.length ∧ s.size + z.length ≤ 10 * i ∧ (∀ x ∈ z, 1 ≤ x ∧ x ≤ 3) ∧ mach wordB (t.drop i) s z.reverse = mach wordB t ByteArray.empty [] ∧ Below w.heap.size w wr) (fun _ _ kv _ => t.length - (intOf kv).toNat)
  case atStart =>
    refine ⟨0, ByteArray.empty, [], rfl, rfl, ?_, Nat.zero_le _, by simp, by simp, rfl, bstep hb1 (cell_below _ _)⟩
    exact World.ownsRow_made w1 #[] 0 hb1.size (by simp [maxLen]) rfl
  case round =>
    obtain ⟨i, s, z, rfl, rfl, hO, hi, hsz, hz3, hm, hB⟩ := hrel
    by_cases hlt : i < t.length
    · obtain ⟨c0, c1, c2⟩ := ((unhide HA).below hB) i hlt
      have hokc := unhide HOK _ (List.getElem_mem hlt)
      rw [List.drop_eq_getElem_cons hlt] at hm
      obtain ⟨c, hc⟩ : ∃ c, c = t[i] := ⟨_, rfl⟩
      rw [← hc] at c0 c1 c2 hokc hm
      clear hc
      have husz := wordB_size hokc
      have hn3 : ari c ≤ 3 := (ari_ok hokc).2
      have HW := hide (l1Word_any c wr hokc)
      obtain ⟨u, hu⟩ : ∃ u, u = wordB c := ⟨_, rfl⟩
      rw [← hu] at husz HW
      have hcat : ¬ (s.size + u.size > 9223372036854775807) := by omega
      obtain ⟨ao0, cp0, rfl, _⟩ := hO.shape
      have hzl : z.length ≤ 1048576 := by omega
      generalize wr = wm at *
      go_wp2_with fail
      refine (unhide HW).mono ?_
      rintro e w2 ⟨rfl, hb2⟩
      have hO2 := hO.below hb2
      have hB2 := bstep hB hb2
      have a0 := (hb2.cell (p := ⟨b, off + i * 3, none⟩) (World.block_lt_of_cell? wm ⟨_, _, none⟩ c0)).trans c0
      have a1 := (hb2.cell (p := ⟨b, off + i * 3 + 1, none⟩) (World.block_lt_of_cell? wm ⟨_, _, none⟩ c1)).trans c1
      clear hO hB c0 c1 c2 HW hb2
      by_cases hp : c.k = 3 ∧ 0 < c.n
      · obtain ⟨hk, hn0⟩ := hp
        have hkb : (c.k == 3) = true := by simpa using hk
        rw [mach, if_pos ⟨hk, hn0⟩, ← hu] at hm
        have hcat2 : ¬ ((s ++ u).size + ({ data := #[40] } : ByteArray).size > 9223372036854775807) := by have : ({ data := #[40] } : ByteArray).size = 1 := rfl; rw [ByteArray.size_append]; omega
        obtain ⟨v', w3, hr, hO3, hb3⟩ := app_oneI w2 w.heap.size _ z c.n hO2 hB2.size hzl
        have HR := hide (show mach wordB (t.drop (i + 1)) (s ++ u ++ lpB) (z ++ [c.n]).reverse = mach wordB t ByteArray.empty [] from by rw [← hm]; simp)
        have hcn : c.n ≤ 3 := by unfold ari at hn3; rw [if_pos hk] at hn3; exact hn3
        have HO := hide (And.intro hO3 (And.intro (hB2.trans hb3) (show ∀ x ∈ z ++ [c.n], 1 ≤ x ∧ x ≤ 3 from fun x hx => by
          rcases List.mem_append.1 hx with h | h
          · exact hz3 x h
          · simp at h; omega)))
        have HS := hide (show (s ++ u ++ lpB).size + (z ++ [c.n]).length ≤ 10 * (i + 1) from by rw [ByteArray.size_append, ByteArray.size_append, show lpB.size = 1 from rfl]; simp; omega)
        clear hO2 hB2 hm hO3 hb3 hz3 hokc hu husz hk hn3
        go_wp2
        go_roundw
        case rel => exact ⟨i + 1, s ++ u ++ lpB, z ++ [c.n], by go_num, rfl, (unhide HO).1, by omega, unhide HS, (unhide HO).2.2, unhide HR, (unhide HO).2.1⟩
        case measure => simp [intOf]; omega
      · rw [mach, if_neg hp, ← hu] at hm
        obtain ⟨s2, hs2⟩ : ∃ s2, s2 = s ++ u := ⟨_, rfl⟩
        have hsz2 : s2.size + z.length ≤ 10 * i + 8 := by rw [hs2, ByteArray.size_append]; omega
        rw [← hs2] at hm
        clear hokc hu husz hn3 hsz
        by_cases hk : c.k = 3
        · have hkb : (c.k == 3) = true := by simpa using hk
          have hn0 : ¬ (0 < c.n) := fun h => hp ⟨hk, h⟩
          clear hp hk
          have HS2 := hide hs2
          clear hs2
          -- the names that are closed
          go_wp2
          go_loopw [3, 4] (fun sv ov wr => ∃ (s' : ByteArray) (z' : List Int), sv = .string s' ∧ OwnI wr w.heap.size ov z' ∧ closeB s' z'.reverse = closeB s2 z.reverse ∧ s'.size + z'.length ≤ 10 * i + 8 ∧ (∀ x ∈ z', 1 ≤ x ∧ x ≤ 3) ∧ Below w.heap.size w wr) (fun _ ov _ => lenVx ov)
          case atStart => exact ⟨s2, z, by rw [unhide HS2], hO2, rfl, hsz2, hz3, hB2⟩
          case round =>
            obtain ⟨s', z', rfl, hO', hcl, hsz', hz3', hB'⟩ := hrel
            clear hO2 hz3 hB2
            by_cases hz0 : z'.length = 0
            · have hz0' : z' = [] := List.length_eq_zero_iff.1 hz0
              subst hz0'
              obtain ⟨ao, cp, rfl, _⟩ := hO'.shape
              have HR := hide (show mach wordB (t.drop (i + 1)) s' ([] : List Int).reverse = mach wordB t ByteArray.empty [] from by rw [← hm, ← hcl]; rfl)
              have HO := hide (And.intro hO' hB')
              clear hO' hB' hcl hm hz0
              go_wp2
              go_roundw
              case rel => exact ⟨i + 1, s', [], by go_num, rfl, (unhide HO).1, by omega, by simp at hsz' ⊢; omega, by simp, unhide HR, (unhide HO).2⟩
              case measure => simp [intOf]; omega
            · obtain ⟨z1, n, rfl⟩ := last_of (Nat.pos_of_ne_zero hz0)
              have hlen : (z1 ++ [n]).length = z1.length + 1 := by simp
              rw [hlen] at hsz' hz0
              obtain ⟨ao, cp, rfl, _⟩ := hO'.shape
              rw [hlen] at hO' ⊢
              obtain ⟨g, rfl, hg, d0, f0, hcp⟩ := ownI_top hO'
              have hn := hz3' n (by simp)
              have hz1 : z1.length ≤ 1000 := by omega
              have e1 : ((z1.length : Int) + 1 - 1) = (z1.length : Int) := by omega
              have hi0 : z1.length < z1.length + 1 := by omega
              have hcat1 : ¬ (s'.size + ({ data := #[41] } : ByteArray).size > 9223372036854775807) := by have : ({ data := #[41] } : ByteArray).size = 1 := rfl; omega
              have hcat2 : ¬ (s'.size + ({ data := #[44] } : ByteArray).size > 9223372036854775807) := by have : ({ data := #[44] } : ByteArray).size = 1 := rfl; omega
              by_cases hn1 : n = 1
              · subst hn1
                have HR := hide (show closeB (s' ++ rpB) z1.reverse = closeB s2 z.reverse from by rw [← hcl, closeB_one])
                have HO := hide (And.intro (ownI_take hO') (And.intro hB' (show ∀ x ∈ z1, 1 ≤ x ∧ x ≤ 3 from fun x hx => hz3' x (by simp [hx]))))
                have HS := hide (show (s' ++ rpB).size + z1.length ≤ 10 * i + 8 from by rw [ByteArray.size_append, show rpB.size = 1 from rfl]; omega)
                clear hO' hB' hcl hz3' hn hlen
                go_wp2
                go_roundw
                case rel => exact ⟨s' ++ rpB, z1, rfl, (unhide HO).1, unhide HR, unhide HS, (unhide HO).2.2, (unhide HO).2.1⟩
                case measure => simp [lenVx]
              · have hnb : (n == 1) = false := by simpa using hn1
                have HR := hide (show mach wordB (t.drop (i + 1)) (s' ++ cmB) (z1 ++ [n - 1]).reverse = mach wordB t ByteArray.empty [] from by rw [← hm, ← hcl, closeB_more _ _ hn1])
                have HO := hide (And.intro (ownI_set (m := n - 1) hO') (And.intro (hB'.setCell (p := ⟨g, z1.length, none⟩) hg (.int .i64 (n - 1))) (show ∀ x ∈ z1 ++ [n - 1], 1 ≤ x ∧ x ≤ 3 from fun x hx => by
                  rcases List.mem_append.1 hx with h | h
                  · exact hz3' x (by simp [h])
                  · simp at h; omega)))
                have HS := hide (show (s' ++ cmB).size + (z1 ++ [n - 1]).length ≤ 10 * (i + 1) from by rw [ByteArray.size_append, show cmB.size = 1 from rfl]; simp; omega)
                clear hO' hB' hcl hz3' hlen hm
                go_wp2
                go_roundw
                case rel => exact ⟨i + 1, s' ++ cmB, z1 ++ [n - 1], by go_num, rfl, (unhide HO).1, by omega, unhide HS, (unhide HO).2.2, unhide HR, (unhide HO).2.1⟩
                case measure => simp [intOf]; omega
        · have hkb : (c.k == 3) = false := by simpa using hk
          clear hp hk
          have HS2 := hide hs2
          clear hs2
          -- the names that are closed
          go_wp2
          go_loopw [3, 4] (fun sv ov wr => ∃ (s' : ByteArray) (z' : List Int), sv = .string s' ∧ OwnI wr w.heap.size ov z' ∧ closeB s' z'.reverse = closeB s2 z.reverse ∧ s'.size + z'.length ≤ 10 * i + 8 ∧ (∀ x ∈ z', 1 ≤ x ∧ x ≤ 3) ∧ Below w.heap.size w wr) (fun _ ov _ => lenVx ov)
          case atStart => exact ⟨s2, z, by rw [unhide HS2], hO2, rfl, hsz2, hz3, hB2⟩
          case round =>
            obtain ⟨s', z', rfl, hO', hcl, hsz', hz3', hB'⟩ := hrel
            clear hO2 hz3 hB2
            by_cases hz0 : z'.length = 0
            · have hz0' : z' = [] := List.length_eq_zero_iff.1 hz0
              subst hz0'
              obtain ⟨ao, cp, rfl, _⟩ := hO'.shape
              have HR := hide (show mach wordB (t.drop (i + 1)) s' ([] : List Int).reverse = mach wordB t ByteArray.empty [] from by rw [← hm, ← hcl]; rfl)
              have HO := hide (And.intro hO' hB')
              clear hO' hB' hcl hm hz0
              go_wp2
              go_roundw
              case rel => exact ⟨i + 1, s', [], by go_num, rfl, (unhide HO).1, by omega, by simp at hsz' ⊢; omega, by simp, unhide HR, (unhide HO).2⟩
              case measure => simp [intOf]; omega
            · obtain ⟨z1, n, rfl⟩ := last_of (Nat.pos_of_ne_zero hz0)
              have hlen : (z1 ++ [n]).length = z1.length + 1 := by simp
              rw [hlen] at hsz' hz0
              obtain ⟨ao, cp, rfl, _⟩ := hO'.shape
              rw [hlen] at hO' ⊢
              obtain ⟨g, rfl, hg, d0, f0, hcp⟩ := ownI_top hO'
              have hn := hz3' n (by simp)
              have hz1 : z1.length ≤ 1000 := by omega
              have e1 : ((z1.length : Int) + 1 - 1) = (z1.length : Int) := by omega
              have hi0 : z1.length < z1.length + 1 := by omega
              have hcat1 : ¬ (s'.size + ({ data := #[41] } : ByteArray).size > 9223372036854775807) := by have : ({ data := #[41] } : ByteArray).size = 1 := rfl; omega
              have hcat2 : ¬ (s'.size + ({ data := #[44] } : ByteArray).size > 9223372036854775807) := by have : ({ data := #[44] } : ByteArray).size = 1 := rfl; omega
              by_cases hn1 : n = 1
              · subst hn1
                have HR := hide (show closeB (s' ++ rpB) z1.reverse = closeB s2 z.reverse from by rw [← hcl, closeB_one])
                have HO := hide (And.intro (ownI_take hO') (And.intro hB' (show ∀ x ∈ z1, 1 ≤ x ∧ x ≤ 3 from fun x hx => hz3' x (by simp [hx]))))
                have HS := hide (show (s' ++ rpB).size + z1.length ≤ 10 * i + 8 from by rw [ByteArray.size_append, show rpB.size = 1 from rfl]; omega)
                clear hO' hB' hcl hz3' hn hlen
                go_wp2
                go_roundw
                case rel => exact ⟨s' ++ rpB, z1, rfl, (unhide HO).1, unhide HR, unhide HS, (unhide HO).2.2, (unhide HO).2.1⟩
                case measure => simp [lenVx]
              · have hnb : (n == 1) = false := by simpa using hn1
                have HR := hide (show mach wordB (t.drop (i + 1)) (s' ++ cmB) (z1 ++ [n - 1]).reverse = mach wordB t ByteArray.empty [] from by rw [← hm, ← hcl, closeB_more _ _ hn1])
                have HO := hide (And.intro (ownI_set (m := n - 1) hO') (And.intro (hB'.setCell (p := ⟨g, z1.length, none⟩) hg (.int .i64 (n - 1))) (show ∀ x ∈ z1 ++ [n - 1], 1 ≤ x ∧ x ≤ 3 from fun x hx => by
                  rcases List.mem_append.1 hx with h | h
                  · exact hz3' x (by simp [h])
                  · simp at h; omega)))
                have HS := hide (show (s' ++ cmB).size + (z1 ++ [n - 1]).length ≤ 10 * (i + 1) from by rw [ByteArray.size_append, show cmB.size = 1 from rfl]; simp; omega)
                clear hO' hB' hcl hz3' hlen hm
                go_wp2
                go_roundw
                case rel => exact ⟨i + 1, s' ++ cmB, z1 ++ [n - 1], by go_num, rfl, (unhide HO).1, by omega, unhide HS, (unhide HO).2.2, unhide HR, (unhide HO).2.1⟩
                case measure => simp [intOf]; omega
    · have hie : i = t.length := by omega
      rw [hie, List.drop_length] at hm
      have HE := hide (show textOf wordB t = s from by unfold textOf; rw [← hm]; rfl)
      clear hm hO hz3
      go_wp2
      go_ret
      exact ⟨by rw [unhide HE]; rfl, hB⟩
end Go.Proofs.YtjjpmlcaapedhaaDoor
