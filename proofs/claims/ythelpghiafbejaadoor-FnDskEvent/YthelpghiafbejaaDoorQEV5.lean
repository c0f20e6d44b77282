/- The program's words of what happens: a map written out. -/
import Derived.Test.YthelpghiafbejaaDoorQEV1
import Derived.Test.YthelpghiafbejaaDoorQW11W12
namespace Go.Proofs.YthelpghiafbejaaDoor
open Go.RowKit Go.Maps
set_option linter.unusedVariables false
set_option linter.unusedSimpArgs false

theorem key_str (l : List UInt8) (h : l.length ≤ 1000) : keyOf Tryd.prog 9 (.string (mkS l)) = some (.string l) := by
  rw [keyOf_string Tryd.underlying9]
  have hs : (mkS l).size ≤ maxLen := by rw [mkS_size]; unfold maxLen; omega
  have he : (mkS l).data.toList = l := bl_mkS l
  simp [hs, he, mapKey, Tryd.underlying9]
theorem at_put {D : DataW Unit} (h : IsMap D) (k x : List UInt8) (v d : DataW Unit) : (D.put (.string k) v).atKey (.string x) d = if x = k then v else D.atKey (.string x) d := by
  by_cases e : x = k
  · subst e
    rw [if_pos rfl, Maps.atKey_put_same h (show WideAt.IsKeyLit (Lit.string x) from trivial)]
  · rw [if_neg e, Maps.atKey_put_other (by intro h'; apply e; simpa using h')]

def kindD : DataW Unit := (((((((((.map [] : DataW Unit).put (.string [97, 115, 107]) (.lit (.int .i64 1))).put (.string [114, 117, 110]) (.lit (.int .i64 2))).put (.string [104, 101, 97, 114]) (.lit (.int .i64 3))).put (.string [108, 111, 115, 101]) (.lit (.int .i64 4))).put (.string [116, 119, 105, 99, 101]) (.lit (.int .i64 5))).put (.string [98, 101, 110, 100]) (.lit (.int .i64 6))).put (.string [102, 97, 108, 108]) (.lit (.int .i64 7))).put (.string [114, 105, 115, 101]) (.lit (.int .i64 8)))
theorem kindD_at (x : List UInt8) : kindD.atKey (.string x) (.lit (.int .i64 0)) = .lit (.int .i64 (evKind x : Nat)) := by
  have m0 : IsMap (.map [] : DataW Unit) := Maps.isMap_empty
  have m1 := m0.put (.string [97, 115, 107]) (.lit (.int .i64 1))
  have m2 := m1.put (.string [114, 117, 110]) (.lit (.int .i64 2))
  have m3 := m2.put (.string [104, 101, 97, 114]) (.lit (.int .i64 3))
  have m4 := m3.put (.string [108, 111, 115, 101]) (.lit (.int .i64 4))
  have m5 := m4.put (.string [116, 119, 105, 99, 101]) (.lit (.int .i64 5))
  have m6 := m5.put (.string [98, 101, 110, 100]) (.lit (.int .i64 6))
  have m7 := m6.put (.string [102, 97, 108, 108]) (.lit (.int .i64 7))
  have m8 := m7.put (.string [114, 105, 115, 101]) (.lit (.int .i64 8))
  unfold kindD
  rw [at_put m7, at_put m6, at_put m5, at_put m4, at_put m3, at_put m2, at_put m1, at_put m0]
  have e0 : (.map [] : DataW Unit).atKey (.string x) (.lit (.int .i64 0)) = .lit (.int .i64 0) := rfl
  rw [e0]
  unfold evKind
  by_cases h1 : x = [97, 115, 107]
  · subst h1; rfl
  by_cases h2 : x = [114, 117, 110]
  · subst h2; rfl
  by_cases h3 : x = [104, 101, 97, 114]
  · subst h3; rfl
  by_cases h4 : x = [108, 111, 115, 101]
  · subst h4; rfl
  by_cases h5 : x = [116, 119, 105, 99, 101]
  · subst h5; rfl
  by_cases h6 : x = [98, 101, 110, 100]
  · subst h6; rfl
  by_cases h7 : x = [102, 97, 108, 108]
  · subst h7; rfl
  by_cases h8 : x = [114, 105, 115, 101]
  · subst h8; rfl
  rw [if_neg h8, if_neg h7, if_neg h6, if_neg h5, if_neg h4, if_neg h3, if_neg h2, if_neg h1, if_neg h1, if_neg h2, if_neg h3, if_neg h4, if_neg h5, if_neg h6, if_neg h7, if_neg h8]
  rfl

set_option maxRecDepth 100000 in
set_option maxHeartbeats 2000000 in
theorem eventKind_any (s : List UInt8) (hs : s.length ≤ 1000) (w : World) :
    Calls Tryd.prog 16 #[.string (mkS s)] w fun e w' => e = .returned (.int .i64 (evKind s : Nat)) ∧ Below w.heap.size w w' := by
  have hmm := @run_makeMap Tryd.prog
  have K := string_keyed (P := Tryd.prog) Tryd.underlying9
  have hb0 : Below w.heap.size w (w.alloc (.map #[] 0)) := (Below.refl _ _).alloc (Nat.le_refl _) _
  have o0 : (w.alloc (.map #[] 0)).ownsMap Tryd.prog 9 (plainElem Tryd.prog 3) w.heap.size 0 (.map [] : DataW Unit) := World.ownsMap_made _ _ _ _
  obtain ⟨w1, r1, o1, g1⟩ := o0.update K Tryd.underlying54 (by decide) (key_str [97, 115, 107] (by decide)) (plainElem_int (H := Unit) Tryd.underlying3 (show (Lit.int .i64 1).wf = true by decide))
  have hb1 := hb0.grown g1 (by have := hb0.size; exact this) (fun j e => by cases e; exact Nat.le_refl _)
  obtain ⟨w2, r2, o2, g2⟩ := o1.update K Tryd.underlying54 (by decide) (key_str [114, 117, 110] (by decide)) (plainElem_int (H := Unit) Tryd.underlying3 (show (Lit.int .i64 2).wf = true by decide))
  have hb2 := hb1.grown g2 (by have := hb1.size; exact this) (fun j e => by cases e; exact Nat.le_refl _)
  obtain ⟨w3, r3, o3, g3⟩ := o2.update K Tryd.underlying54 (by decide) (key_str [104, 101, 97, 114] (by decide)) (plainElem_int (H := Unit) Tryd.underlying3 (show (Lit.int .i64 3).wf = true by decide))
  have hb3 := hb2.grown g3 (by have := hb2.size; exact this) (fun j e => by cases e; exact Nat.le_refl _)
  obtain ⟨w4, r4, o4, g4⟩ := o3.update K Tryd.underlying54 (by decide) (key_str [108, 111, 115, 101] (by decide)) (plainElem_int (H := Unit) Tryd.underlying3 (show (Lit.int .i64 4).wf = true by decide))
  have hb4 := hb3.grown g4 (by have := hb3.size; exact this) (fun j e => by cases e; exact Nat.le_refl _)
  obtain ⟨w5, r5, o5, g5⟩ := o4.update K Tryd.underlying54 (by decide) (key_str [116, 119, 105, 99, 101] (by decide)) (plainElem_int (H := Unit) Tryd.underlying3 (show (Lit.int .i64 5).wf = true by decide))
  have hb5 := hb4.grown g5 (by have := hb4.size; exact this) (fun j e => by cases e; exact Nat.le_refl _)
  obtain ⟨w6, r6, o6, g6⟩ := o5.update K Tryd.underlying54 (by decide) (key_str [98, 101, 110, 100] (by decide)) (plainElem_int (H := Unit) Tryd.underlying3 (show (Lit.int .i64 6).wf = true by decide))
  have hb6 := hb5.grown g6 (by have := hb5.size; exact this) (fun j e => by cases e; exact Nat.le_refl _)
  obtain ⟨w7, r7, o7, g7⟩ := o6.update K Tryd.underlying54 (by decide) (key_str [102, 97, 108, 108] (by decide)) (plainElem_int (H := Unit) Tryd.underlying3 (show (Lit.int .i64 7).wf = true by decide))
  have hb7 := hb6.grown g7 (by have := hb6.size; exact this) (fun j e => by cases e; exact Nat.le_refl _)
  obtain ⟨w8, r8, o8, g8⟩ := o7.update K Tryd.underlying54 (by decide) (key_str [114, 105, 115, 101] (by decide)) (plainElem_int (H := Unit) Tryd.underlying3 (show (Lit.int .i64 8).wf = true by decide))
  have hb8 := hb7.grown g8 (by have := hb7.size; exact this) (fun j e => by cases e; exact Nat.le_refl _)
  obtain ⟨c, hl, hat, _⟩ := o8.lookup_int K Tryd.underlying54 Tryd.underlying3 (zeroInt _) (key_str s hs)
  have hc : c = (evKind s : Nat) := by
    have h1 := kindD_at s
    unfold kindD at h1
    rw [h1] at hat
    injection hat with hat
    injection hat with _ hat
    exact hat.symm
  subst hc
  have r1 : (Instr.mapUpdate 54 (.map (some w.heap.size)) (.string { data := #[97, 115, 107] }) (.int .i64 1)).run Tryd.prog (w.alloc (.map #[] 0)) = .ok () w1 := r1
  have r2 : (Instr.mapUpdate 54 (.map (some w.heap.size)) (.string { data := #[114, 117, 110] }) (.int .i64 2)).run Tryd.prog w1 = .ok () w2 := r2
  have r3 : (Instr.mapUpdate 54 (.map (some w.heap.size)) (.string { data := #[104, 101, 97, 114] }) (.int .i64 3)).run Tryd.prog w2 = .ok () w3 := r3
  have r4 : (Instr.mapUpdate 54 (.map (some w.heap.size)) (.string { data := #[108, 111, 115, 101] }) (.int .i64 4)).run Tryd.prog w3 = .ok () w4 := r4
  have r5 : (Instr.mapUpdate 54 (.map (some w.heap.size)) (.string { data := #[116, 119, 105, 99, 101] }) (.int .i64 5)).run Tryd.prog w4 = .ok () w5 := r5
  have r6 : (Instr.mapUpdate 54 (.map (some w.heap.size)) (.string { data := #[98, 101, 110, 100] }) (.int .i64 6)).run Tryd.prog w5 = .ok () w6 := r6
  have r7 : (Instr.mapUpdate 54 (.map (some w.heap.size)) (.string { data := #[102, 97, 108, 108] }) (.int .i64 7)).run Tryd.prog w6 = .ok () w7 := r7
  have r8 : (Instr.mapUpdate 54 (.map (some w.heap.size)) (.string { data := #[114, 105, 115, 101] }) (.int .i64 8)).run Tryd.prog w7 = .ok () w8 := r8
  clear o1 g1 o2 g2 o3 g3 o4 g4 o5 g5 o6 g6 o7 g7 o8 g8 o0 hat K
  have HB := hide hb8
  clear hb0 hb1 hb2 hb3 hb4 hb5 hb6 hb7 hb8
  go_enter Tryd.func16, Tryd.ntmps16
  go_wp2
  go_ret
  exact ⟨rfl, unhide HB⟩
end Go.Proofs.YthelpghiafbejaaDoor
