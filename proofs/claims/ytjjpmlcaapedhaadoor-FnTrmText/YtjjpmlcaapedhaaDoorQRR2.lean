/- The reader of texts of the program: decimals. -/
import Derived.Test.YtjjpmlcaapedhaaDoorQRR1
import Derived.Lib.AtoiErrMem
import Derived.Shelf.Strconv.AtoiAll
namespace Go.Proofs.YtjjpmlcaapedhaaDoor
open Go.RowKit
set_option linter.unusedVariables false
set_option linter.unusedSimpArgs false

theorem Itoa_all (n : Int) (w : World) (h0 : -9223372036854775808 ≤ n) (h1 : n ≤ 9223372036854775807) (hT : TenT w) :
    Calls Tryd.prog 56 #[.int .i64 n] w fun e w' => e = .returned (.string (numB n)) ∧ Below w.heap.size w w' := by
  refine (Any.strconv_Itoa laysM171 n (by omega) (by omega) w hT).mono ?_
  rintro e w' ⟨rfl, k, os, rfl⟩
  exact ⟨rfl, ⟨rfl, rfl, rfl, by simp [Go.Sort.grow, World.drewN], fun i hi => by simp [Go.Sort.grow, World.drewN, Array.getElem?_append_left hi]⟩⟩

theorem Atoi_ok (l : List UInt8) (hl : l.length ≤ 4611686018427387904) (v : Int) (h : Go.Lib.atoiAll l = .ok v) (w : World) :
    Calls Tryd.prog 55 #[.string (mkS l)] w fun e w' => e = .returned (.tuple #[.int .i64 v, .nilIface]) ∧ Below w.heap.size w w' := by
  refine (Any.strconv_Atoi_ok laysC172 (mkS l) (by rw [mkS_size]; omega) v (by rw [show (mkS l).data.toList = l from bl_mkS l]; exact h) w).mono ?_
  rintro e w' ⟨rfl, hw⟩
  refine ⟨rfl, ?_⟩
  rcases hw with rfl | ⟨t, rfl⟩
  · exact Below.refl _ _
  · exact Go.Lib.bytesWorld_below _ _ _
theorem Atoi_no (l : List UInt8) (hl : l.length ≤ 281474976710656) (h : ∀ v, Go.Lib.atoiAll l ≠ .ok v) (w : World) {R : Nat} (hE : ErrT w R) :
    Calls Tryd.prog 55 #[.string (mkS l)] w fun e w' => ∃ n t q, e = .returned (.tuple #[.int .i64 n, .iface t q]) ∧ Below w.heap.size w w' := by
  obtain ⟨⟨e1, c1, h1⟩, ⟨e2, c2, h2⟩, ns, nr⟩ := hE
  have hs : (mkS l).size ≤ 281474976710656 := by rw [mkS_size]; exact hl
  have he : (mkS l).data.toList = l := bl_mkS l
  cases hr : Go.Lib.atoiAll l with
  | ok v => exact absurd hr (h v)
  | «syntax» =>
    refine (Any.strconv_Atoi_syntax laysC172 (mkS l) hs (by rw [he]; exact hr) e1 w c1 h1).mono ?_
    rintro e w' ⟨N, rfl, _, _, hb⟩
    exact ⟨_, _, _, rfl, hb⟩
  | range =>
    refine (Any.strconv_Atoi_range laysC172 (mkS l) hs (by rw [he]; exact hr) e2 w c2 h2).mono ?_
    rintro e w' ⟨N, rfl, _, _, hb⟩
    exact ⟨_, _, _, rfl, hb⟩

theorem tw_take (p : UInt8 → Bool) (l : List UInt8) : l.take (l.takeWhile p).length = l.takeWhile p ∧ l.drop (l.takeWhile p).length = l.dropWhile p ∧ (l.takeWhile p).length ≤ l.length := by
  have h := List.takeWhile_append_dropWhile (p := p) (l := l)
  refine ⟨?_, ?_, ?_⟩
  · conv => lhs; arg 2; rw [← h]
    exact List.take_left' rfl
  · conv => lhs; arg 2; rw [← h]
    exact List.drop_left' rfl
  · have h2 := congrArg List.length h
    rw [List.length_append] at h2
    omega

/-- What decimals are, of that kind and with that sign. -/
def numRes (k sg : Int) (l : List UInt8) : Option (C × List UInt8) := match rdNum l with
  | some (v, r) => if v = 0 ∧ sg < 0 then none else some (⟨k, sg * v, ByteArray.empty⟩, r)
  | none => none

/-- A node alone, or nil. -/
def GotN (R : Nat) (p : Int) (w : World) (o : Option (C × List UInt8)) (e : Ending) (w' : World) : Prop :=
  w.grownBy w' (some R) ∧ match o with
    | none => e = .returned (.pointer none)
    | some (c, r) => ∃ q, e = .returned (.pointer (some ⟨q, 0, none⟩)) ∧ w.heap.size ≤ q ∧ Node w' q c (.slice none 0 0) ∧ Rst w' R r p

theorem text_ne {l m : List UInt8} (h : l ≠ m) : ((mkS l).toList == (mkS m).toList) = false := by
  rw [ByteArray.toList_eq, ByteArray.toList_eq]
  simp only [beq_eq_false_iff_ne]
  exact fun e => h (by have : bl (mkS l) = bl (mkS m) := e; rwa [bl_mkS, bl_mkS] at this)

set_option maxRecDepth 100000 in
set_option maxHeartbeats 2000000 in
theorem number_any (w : World) (R : Nat) (l : List UInt8) (p k sg : Int) (h : Rst w R l p) (hl : l.length ≤ 1000000000) (hsg : sg = 1 ∨ sg = -1) (hE : ErrT w R) (hT : TenT w) (hTR : ∀ w', w.grownBy w' (some R) → TenT w') :
    Calls Tryd.prog 38 #[.pointer (some ⟨R, 0, none⟩), .int .i64 k, .int .i64 sg] w (GotN R p w (numRes k sg l)) := by
  obtain ⟨ht, hd, hle⟩ := tw_take dig l
  have hlt := h.lt
  have h0 := h.c0
  have HC := hide (count_isDigit l (by omega) w)
  have HK := hide (takeR_any w R l (l.takeWhile dig).length p h hle (by omega))
  rw [ht, hd] at HK
  have hdl : (l.takeWhile dig).length ≤ 1000000000 := by omega
  have HD := hide (show rdNum l = match Go.Lib.atoiAll (l.takeWhile dig) with
      | .ok v => if Go.Lib.itoa v = l.takeWhile dig then some (v, l.dropWhile dig) else none
      | _ => none from rfl)
  have HALL := hide (show ∀ b ∈ l.takeWhile dig, dig b = true from by
    have := List.all_takeWhile (p := dig) (l := l)
    rwa [List.all_eq_true] at this)
  have HSG := hide hsg
  have HE := hide (fun (W : World) (hW : w.grownBy W (some R)) => hE.grown hW)
  have HTN := hide hTR
  clear ht hd hle h hE hT hTR hsg
  generalize l.takeWhile dig = d at *
  generalize l.dropWhile dig = r at *
  go_enter Tryd.func38, Tryd.ntmps38
  go_wp2_with fail
  refine (unhide HC).mono ?_
  rintro e w1 ⟨rfl, rfl⟩
  go_wp2_with fail
  refine (unhide HK).mono ?_
  rintro e w2 ⟨rfl, hR2, hG2⟩
  clear HC HK h0
  by_cases hok : ∃ v, Go.Lib.atoiAll d = .ok v
  · obtain ⟨v, hv⟩ := hok
    have hvb := Go.Lib.atoiAll_bounds hv
    have HA := hide (Atoi_ok d (by omega) v hv w2)
    have HV := hide hv
    clear hv
    go_wp2_with fail
    refine (unhide HA).mono ?_
    rintro e w3 ⟨rfl, hb3⟩
    have hR3 := hR2.below hb3
    have hG3 := grownR_trans hG2 (grownR_below R hb3)
    have HI := hide (Itoa_all v w3 hvb.1 hvb.2 (unhide HTN w3 hG3))
    clear HA hb3 hR2 hG2
    go_wp2_with fail
    refine (unhide HI).mono ?_
    rintro e w4 ⟨rfl, hb4⟩
    have hR4 := hR3.below hb4
    have hG4 := grownR_trans hG3 (grownR_below R hb4)
    clear HI hb4 hR3 hG3
    have hnb : numB v = mkS (Go.Lib.itoa v) := rfl
    rw [hnb]
    clear hnb
    by_cases he : Go.Lib.itoa v = d
    · have hv0 : 0 ≤ v := by
        by_cases hn : v < 0
        · rw [itoa_neg hn] at he
          have h45 := unhide HALL 45 (by rw [← he]; simp)
          simp [dig] at h45
        · omega
      have HRD := hide (show rdNum l = some (v, r) from by rw [unhide HD, unhide HV]; simp only; rw [if_pos he])
      rw [he]
      clear HD HV he HALL
      by_cases hz : v = 0 ∧ sg < 0
      · have HN := hide (show numRes k sg l = none from by unfold numRes; rw [unhide HRD]; simp only; rw [if_pos hz])
        obtain ⟨rfl, hs0⟩ := hz
        go_wp2
        go_ret
        exact ⟨hG4, by rw [unhide HN]; rfl⟩
      · have HN := hide (show numRes k sg l = some (⟨k, sg * v, ByteArray.empty⟩, r) from by unfold numRes; rw [unhide HRD]; simp only; rw [if_neg hz])
        have hwr : IntKind.i64.wrap (sg * v) = sg * v := by
          rcases unhide HSG with e | e <;> subst e <;> (simp [IntKind.wrap, IntKind.bits, IntKind.signed]; omega)
        have HND := hide (show Node (w4.alloc (.cells #[.int .i64 k, .int .i64 (sg * v), .string ByteArray.empty, .slice none 0 0] 71)) w4.heap.size ⟨k, sg * v, ByteArray.empty⟩ (.slice none 0 0) from World.alloc_heap_new w4 _)
        have FIN := hide (show GotN R p w1 (numRes k sg l) (.returned (.pointer (some ⟨w4.heap.size, 0, none⟩))) (w4.alloc (.cells #[.int .i64 k, .int .i64 (sg * v), .string ByteArray.empty, .slice none 0 0] 71)) from by
          refine ⟨grownR_trans hG4 (grownR_below R (cell_below _ _)), ?_⟩
          rw [unhide HN]
          exact ⟨_, rfl, hG4.size, unhide HND, hR4.below (cell_below _ _)⟩)
        clear hR4 hG4 HN HND HRD
        by_cases hv1 : v = 0
        · subst hv1
          have hs0 : ¬ sg < 0 := by omega
          simp only [Int.mul_zero] at FIN
          go_wp2
          go_ret
          exact unhide FIN
        · have hvb' : (v == 0) = false := by simpa using hv1
          go_wp2
          go_ret
          exact unhide FIN
    · have HRD := hide (show numRes k sg l = none from by unfold numRes; rw [unhide HD, unhide HV]; simp only; rw [if_neg he])
      have hne := text_ne he
      clear HD HV
      go_wp2
      go_ret
      exact ⟨hG4, by rw [unhide HRD]; rfl⟩
  · have hno : ∀ v, Go.Lib.atoiAll d ≠ .ok v := fun v hv => hok ⟨v, hv⟩
    have HN := hide (show numRes k sg l = none from by
      unfold numRes
      rw [unhide HD]
      cases hr : Go.Lib.atoiAll d with
      | ok v => exact absurd hr (hno v)
      | «syntax» => rfl
      | range => rfl)
    have HA := hide (Atoi_no d (by omega) hno w2 (unhide HE w2 hG2))
    clear hok hno HD
    go_wp2_with fail
    refine (unhide HA).mono ?_
    rintro e w3 ⟨n, t, q, rfl, hb3⟩
    have hG3 := grownR_trans hG2 (grownR_below R hb3)
    go_wp2
    go_ret
    exact ⟨hG3, by rw [unhide HN]; rfl⟩
end Go.Proofs.YtjjpmlcaapedhaaDoor
