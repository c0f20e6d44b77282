/- The reader of texts of the program: what it skips, takes, counts; decimals. -/
import Derived.Test.YthelpghiafbejaaDoorQRX1
import Derived.Test.YthelpghiafbejaaDoorQTXR
import Derived.Test.YthelpghiafbejaaDoorQTX5T1
import Derived.Test.YthelpghiafbejaaDoorQW5
import Derived.Test.YthelpghiafbejaaDoorQT2T3T4W6W7W18T5
namespace Go.Proofs.YthelpghiafbejaaDoor
open Go.RowKit
set_option linter.unusedVariables false
set_option linter.unusedSimpArgs false

def mkS (l : List UInt8) : ByteArray := ⟨l.toArray⟩
theorem bl_mkS (l : List UInt8) : bl (mkS l) = l := bl_mk l
theorem mkS_bl (s : ByteArray) : mkS (bl s) = s := bl_inj (bl_mk _)
theorem mkS_size (l : List UInt8) : (mkS l).size = l.length := by rw [← bl_size, bl_mkS]
theorem mkS_take (l : List UInt8) (n : Nat) : (mkS l).extract 0 n = mkS (l.take n) := by
  refine bl_inj ?_
  rw [bl_mkS]
  simp [bl, mkS, ByteArray.data_extract]
theorem mkS_drop (l : List UInt8) (n : Nat) : (mkS l).extract n l.length = mkS (l.drop n) := by
  refine bl_inj ?_
  rw [bl_mkS]
  simp [bl, mkS, ByteArray.data_extract]
  rw [List.take_of_length_le (by simp)]

theorem grownR_set (w : World) (R i : Nat) (v : Value) : w.grownBy (w.setCell ⟨R, i, none⟩ v) (some R) := grownBy_setc w ⟨R, i, none⟩ v
theorem grownR_below {w w' : World} (R : Nat) (hb : Below w.heap.size w w') : w.grownBy w' (some R) := ⟨hb.os, hb.tape, hb.output, hb.size, fun k hk _ => hb.block k hk⟩
theorem grownR_trans {R : Nat} {a b c : World} (h : a.grownBy b (some R)) (k : b.grownBy c (some R)) : a.grownBy c (some R) :=
  ⟨k.os.trans h.os, k.tape.trans h.tape, k.output.trans h.output, Nat.le_trans h.size k.size, fun j hj hn => (k.block j (Nat.lt_of_lt_of_le hj h.size) hn).trans (h.block j hj hn)⟩
theorem grownR_refl (w : World) (R : Nat) : w.grownBy w (some R) := ⟨rfl, rfl, rfl, Nat.le_refl _, fun _ _ _ => rfl⟩

/-- The two errors of the library lie there, apart from the reader. -/
structure ErrT (w : World) (R : Nat) : Prop where
  syn : ∃ ev, w.cell? ⟨0, 0, none⟩ = some ev ∧ (ev = .nilIface ∨ ∃ te pe, ev = .iface te pe)
  rng : ∃ ev, w.cell? ⟨1, 0, none⟩ = some ev ∧ (ev = .nilIface ∨ ∃ te pe, ev = .iface te pe)
  ns : 0 ≠ R
  nr : 1 ≠ R
theorem ErrT.grown {w w' : World} {R : Nat} (h : ErrT w R) (hg : w.grownBy w' (some R)) : ErrT w' R := by
  obtain ⟨⟨e1, c1, h1⟩, ⟨e2, c2, h2⟩, ns, nr⟩ := h
  refine ⟨⟨e1, ?_, h1⟩, ⟨e2, ?_, h2⟩, ns, nr⟩
  · exact (World.cell?_of_block (a := ⟨0, 0, none⟩) (hg.block _ (World.block_lt_of_cell? w ⟨_, _, none⟩ c1) (fun e => ns (Option.some.inj e)))).trans c1
  · exact (World.cell?_of_block (a := ⟨1, 0, none⟩) (hg.block _ (World.block_lt_of_cell? w ⟨_, _, none⟩ c2) (fun e => nr (Option.some.inj e)))).trans c2

theorem dig_bool (b : UInt8) : dig b = (decide (48 ≤ (b.toNat : Int)) && decide ((b.toNat : Int) ≤ 57)) := by
  unfold dig
  congr 1
  · exact decide_eq_decide.2 (by omega)
  · exact decide_eq_decide.2 (by omega)
theorem sml_bool (b : UInt8) : sml b = (decide (97 ≤ (b.toNat : Int)) && decide ((b.toNat : Int) ≤ 122)) := rfl

set_option maxRecDepth 100000 in
set_option maxHeartbeats 400000 in
theorem isSmallB_any (b : UInt8) (w : World) : Calls Tryd.prog 44 #[.int .u8 b.toNat] w fun e w' => e = .returned (.bool (sml b)) ∧ w' = w := by
  have hb0 := sml_bool b
  have HB := hide hb0
  clear hb0
  by_cases h1 : 97 ≤ (b.toNat : Int)
  · by_cases h2 : (b.toNat : Int) ≤ 122
    · have hd : sml b = true := by rw [unhide HB]; simp [h1, h2]
      go_enter Tryd.func44, Tryd.ntmps44
      go_wp2
      go_ret
      exact ⟨ret_bool (by first | rfl | exact hd.symm), rfl⟩
    · have hd : sml b = false := by rw [unhide HB]; simp [h2]
      have h3 : ¬ (b.toNat : Int) ≤ 122 := h2
      go_enter Tryd.func44, Tryd.ntmps44
      go_wp2
      go_ret
      exact ⟨ret_bool (by first | rfl | exact hd.symm), rfl⟩
  · have hd : sml b = false := by rw [unhide HB]; simp [h1]
    go_enter Tryd.func44, Tryd.ntmps44
    go_wp2
    go_ret
    exact ⟨ret_bool (by first | rfl | exact hd.symm), rfl⟩

set_option maxRecDepth 100000 in
set_option maxHeartbeats 1000000 in
theorem count_isSmall (l : List UInt8) (hl : l.length ≤ 4611686018427387904) (w : World) :
    Calls Tryd.prog 43 #[.string (mkS l), .func (.func 44) #[] #[]] w fun e w' => e = .returned (.int .i64 (l.takeWhile sml).length) ∧ w' = w := by
  have hs := mkS_size l
  go_enter Tryd.func43, Tryd.ntmps43
  go_wp2
  go_loopw [5] (fun i wr => ∃ (k : Nat), k ≤ l.length ∧ i = .int .i64 k ∧ (∀ b ∈ l.take k, sml b = true) ∧ wr = w) (fun i _ => l.length - (intOf i).toNat)
  case atStart => exact ⟨0, Nat.zero_le _, rfl, fun b hb => by simp at hb, rfl⟩
  case round =>
    obtain ⟨k, hk, rfl, hx, hwr⟩ := hrel
    subst hwr
    have HX := hide hx
    clear hx
    by_cases hlt : k < l.length
    · have hget : (mkS l).data[k]? = some l[k] := by simp [mkS, hlt]
      have hget2 : (mkS l)[k]'(by rw [hs]; exact hlt) = l[k] := by
        show (mkS l).data[k]'_ = _
        simp [mkS]
      have HC := hide (fun (W : World) => isSmallB_any l[k] W)
      obtain ⟨c, hc⟩ : ∃ c, c = l[k] := ⟨_, rfl⟩
      rw [← hc] at HC hget hget2
      have HCE := hide hc
      clear hc
      cases hp : sml c with
      | true =>
        rw [hp] at HC
        go_wp2_with (go_at_call 44; refine (unhide HC _).mono ?_; rintro e w1 ⟨rfl, rfl⟩)
        go_roundw
        case rel =>
          refine ⟨k + 1, by omega, by go_num, fun b hb => ?_, by first | rfl | trivial⟩
          rw [List.take_succ_eq_append_getElem hlt, List.mem_append] at hb
          rcases hb with hb | hb
          · exact unhide HX b hb
          · simp only [List.mem_singleton] at hb
            rw [hb, ← unhide HCE]; exact hp
        case measure => simp [intOf]; omega
      | false =>
        rw [hp] at HC
        go_wp2_with (go_at_call 44; refine (unhide HC _).mono ?_; rintro e w1 ⟨rfl, rfl⟩)
        go_ret
        refine ⟨?_, rfl⟩
        have e1 : l = l.take k ++ l.drop k := (List.take_append_drop k l).symm
        have e2 := (take_while_stop (p := sml) (l := l.take k) (r := l.drop k) (unhide HX) (fun b hb => by
          rw [List.drop_eq_getElem_cons hlt] at hb
          have hb' : l[k] = b := Option.some.inj hb
          rw [← hb', ← unhide HCE]; exact hp)).1
        rw [List.take_append_drop] at e2
        rw [e2, List.length_take, Nat.min_eq_left (by omega)]
        rfl
    · go_wp2
      go_ret
      refine ⟨?_, rfl⟩
      have e2 := (take_while_stop (p := sml) (l := l.take k) (r := l.drop k) (unhide HX) (fun b hb => by
          rw [List.drop_eq_nil_of_le (by omega)] at hb
          cases hb)).1
      rw [List.take_append_drop] at e2
      rw [e2, List.length_take, Nat.min_eq_left (by omega)]
      rfl

theorem prefix_one (l : List UInt8) (c : UInt8) : Go.Lib.hasPrefix l [c] = decide (l.head? = some c) ∧ Go.Lib.trimPrefix l [c] = if l.head? = some c then l.tail else l := by
  cases l with
  | nil => constructor <;> simp [Go.Lib.hasPrefix, Go.Lib.trimPrefix]
  | cons b r =>
    by_cases h : b = c
    · subst h
      constructor <;> simp [Go.Lib.hasPrefix, Go.Lib.trimPrefix]
    · have h' : ¬ c = b := fun e => h e.symm
      constructor <;> simp [Go.Lib.hasPrefix, Go.Lib.trimPrefix, List.isPrefixOf, h, h']

end Go.Proofs.YthelpghiafbejaaDoor
