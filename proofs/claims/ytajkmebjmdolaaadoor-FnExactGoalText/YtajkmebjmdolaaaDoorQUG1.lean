/- Goals' texts: goalText, kind by kind. -/
import Derived.Test.YtajkmebjmdolaaaDoorQTX8GI1BR1FL5
import Derived.Test.YtajkmebjmdolaaaDoorQGX1
import Derived.Test.YtajkmebjmdolaaaDoorQPB3
namespace Go.Proofs.YtajkmebjmdolaaaDoor
open Go.RowKit Go.Shelf
set_option linter.unusedVariables false
set_option linter.unusedSimpArgs false

def gT (k : Int) (a b c : List C) : ByteArray :=
  if k = 2 then textT a ++ ({ data := #[32, 61, 32] } : ByteArray) ++ textT b
  else if k = 3 then ({ data := #[33] } : ByteArray)
  else if k = 4 then textT a ++ ({ data := #[32, 60, 32] } : ByteArray) ++ textT b
  else if k = 5 then textT a ++ ({ data := #[32, 43, 32] } : ByteArray) ++ textT b ++ ({ data := #[32, 61, 32] } : ByteArray) ++ textT c
  else textT a
/-- A goal's text. -/
def gX (k : Int) (a b c : List C) : ByteArray := if goalB k a b c then gT k a b c else ByteArray.empty

theorem two_newG (w : World) (x0 x1 : Value) (T : TypeId) : Below w.heap.size w (w.alloc (.cells #[x0, x1] T)) ∧ (w.alloc (.cells #[x0, x1] T)).cell? ⟨w.heap.size, 0, none⟩ = some x0 ∧ (w.alloc (.cells #[x0, x1] T)).cell? ⟨w.heap.size, 1, none⟩ = some x1 := by
  have hb : (w.alloc (.cells #[x0, x1] T)).heap[w.heap.size]? = some (.cells #[x0, x1] T) := World.alloc_heap_new w _
  refine ⟨cell_below _ _, ?_, ?_⟩ <;> (simp only [World.cell?]; rw [hb]; rfl)
theorem one_newG (w : World) (x0 : Value) (T : TypeId) : Below w.heap.size w (w.alloc (.cells #[x0] T)) ∧ (w.alloc (.cells #[x0] T)).cell? ⟨w.heap.size, 0, none⟩ = some x0 := by
  have hb : (w.alloc (.cells #[x0] T)).heap[w.heap.size]? = some (.cells #[x0] T) := World.alloc_heap_new w _
  refine ⟨cell_below _ _, ?_⟩; simp only [World.cell?]; rw [hb]; rfl

theorem textT_size {t : List C} (ht : l3T t = true) : (textT t).size ≤ 132 := by
  have h := (l3T_iff t).1 ht
  obtain ⟨⟨f, hf⟩, hok⟩ := trm_Trm h.1
  obtain ⟨u, hu⟩ := txt_all wordB f t hf
  have h2 := txt_size hu hok
  unfold textT
  rw [h.1, if_pos rfl, textOf_of hu]
  have := h.2.1
  omega

/-- From this world on the tree at p is written so. -/
def TxtAt (w : World) (p : Nat) (t : List C) : Prop := ∀ W, Below w.heap.size w W → Calls Tryd.prog 36 #[.pointer (some ⟨p, 0, none⟩)] W fun e w' => e = .returned (.string (textT t)) ∧ Below W.heap.size W w'

theorem txtAt_of {lo : Nat} {w : World} {p : Nat} {t : List C} (h : TreL lo w.heap.size w p t) (ht : trm t = true) (hT : TenT w) : TxtAt w p t := by
  intro W hW
  obtain ⟨z, h1, h2, h3⟩ := h.below hW
  have hok := ((trm_iff t).1 ht).2.2.1
  have H := text_any W (hT.below hW) 40 p z (h1.kept (fun b hb => hb.2) (fun _ _ => rfl)) (fun x hx => hok _ (by rw [← h2]; exact List.mem_map_of_mem hx)) (by have := congrArg List.length h2; simp at this; omega)
  rw [h2] at H
  have HE : textT t = textOf wordB t := by unfold textT; rw [ht]; rfl
  rw [HE]
  exact H

set_option maxRecDepth 100000 in
theorem ta_same_same (v : Value) (w : World) : (Instr.typeAssert (.iface 68 v) 48 68 true).run Tryd.prog w = .ok (.tuple #[v, .bool true]) w := by first | kernel_rfl | (simp [Instr.typeAssert, go_sem]; done)
set_option maxRecDepth 100000 in
theorem ta_cut_same (v : Value) (w : World) : (Instr.typeAssert (.iface 70 v) 48 68 true).run Tryd.prog w = .ok (.tuple #[(.agg #[.pointer none, .pointer none]), .bool false]) w := by first | kernel_rfl | (simp [Instr.typeAssert, go_sem]; done)
set_option maxRecDepth 100000 in
theorem ta_cut_cut (v : Value) (w : World) : (Instr.typeAssert (.iface 70 v) 48 70 true).run Tryd.prog w = .ok (.tuple #[v, .bool true]) w := by first | kernel_rfl | (simp [Instr.typeAssert, go_sem]; done)
set_option maxRecDepth 100000 in
theorem ta_less_same (v : Value) (w : World) : (Instr.typeAssert (.iface 71 v) 48 68 true).run Tryd.prog w = .ok (.tuple #[(.agg #[.pointer none, .pointer none]), .bool false]) w := by first | kernel_rfl | (simp [Instr.typeAssert, go_sem]; done)
set_option maxRecDepth 100000 in
theorem ta_less_cut (v : Value) (w : World) : (Instr.typeAssert (.iface 71 v) 48 70 true).run Tryd.prog w = .ok (.tuple #[(.agg #[]), .bool false]) w := by first | kernel_rfl | (simp [Instr.typeAssert, go_sem]; done)
set_option maxRecDepth 100000 in
theorem ta_less_less (v : Value) (w : World) : (Instr.typeAssert (.iface 71 v) 48 71 true).run Tryd.prog w = .ok (.tuple #[v, .bool true]) w := by first | kernel_rfl | (simp [Instr.typeAssert, go_sem]; done)
set_option maxRecDepth 100000 in
theorem ta_plus_same (v : Value) (w : World) : (Instr.typeAssert (.iface 73 v) 48 68 true).run Tryd.prog w = .ok (.tuple #[(.agg #[.pointer none, .pointer none]), .bool false]) w := by first | kernel_rfl | (simp [Instr.typeAssert, go_sem]; done)
set_option maxRecDepth 100000 in
theorem ta_plus_cut (v : Value) (w : World) : (Instr.typeAssert (.iface 73 v) 48 70 true).run Tryd.prog w = .ok (.tuple #[(.agg #[]), .bool false]) w := by first | kernel_rfl | (simp [Instr.typeAssert, go_sem]; done)
set_option maxRecDepth 100000 in
theorem ta_plus_less (v : Value) (w : World) : (Instr.typeAssert (.iface 73 v) 48 71 true).run Tryd.prog w = .ok (.tuple #[(.agg #[.pointer none, .pointer none]), .bool false]) w := by first | kernel_rfl | (simp [Instr.typeAssert, go_sem]; done)
set_option maxRecDepth 100000 in
theorem ta_plus_plus (v : Value) (w : World) : (Instr.typeAssert (.iface 73 v) 48 73 true).run Tryd.prog w = .ok (.tuple #[v, .bool true]) w := by first | kernel_rfl | (simp [Instr.typeAssert, go_sem]; done)

set_option maxRecDepth 100000 in
set_option maxHeartbeats 4000000 in
theorem goalText_call (p : Nat) (a : List C) (w : World) (Ha : TxtAt w p a) (sa : (textT a).size ≤ 132) :
    Calls Tryd.prog 22 #[.iface 66 (.agg #[ptrV (some p)])] w fun e w' => e = .returned (.string (textT a)) ∧ Below w.heap.size w w' := by
  have t_call := ta_call_call
  have Ka := hide Ha
  clear Ha
  unfold TxtAt at Ka
  generalize textT a = u at Ka sa ⊢
  clear sa
  obtain ⟨hb0, d0⟩ := one_newG w (.pointer (some ⟨p, 0, none⟩)) 66
  simp only [ptrV, Option.map_some]
  go_enter Tryd.func22, Tryd.ntmps22
  go_wp2_with fail
  generalize w.alloc (.cells #[.pointer (some ⟨p, 0, none⟩)] 66) = w0 at hb0 d0 ⊢
  have hl0 : w.heap.size < w0.heap.size := World.block_lt_of_cell? w0 ⟨_, _, none⟩ d0
  refine (unhide Ka _ hb0).mono ?_
  rintro e w1 ⟨rfl, hb1⟩
  go_wp2
  go_ret
  exact ⟨rfl, bstep hb0 hb1⟩

set_option maxRecDepth 100000 in
set_option maxHeartbeats 4000000 in
theorem goalText_same (p : Nat) (q : Nat) (a : List C) (b : List C) (w : World) (Ha : TxtAt w p a) (sa : (textT a).size ≤ 132) (Hb : TxtAt w q b) (sb : (textT b).size ≤ 132) :
    Calls Tryd.prog 22 #[.iface 68 (.agg #[ptrV (some p), ptrV (some q)])] w fun e w' => e = .returned (.string (textT a ++ ({ data := #[32, 61, 32] } : ByteArray) ++ textT b)) ∧ Below w.heap.size w w' := by
  have t_call := ta_same_call
  have t_same := ta_same_same
  have Ka := hide Ha
  have Kb := hide Hb
  clear Ha Hb
  unfold TxtAt at Ka
  generalize textT a = u at Ka sa ⊢
  unfold TxtAt at Kb
  generalize textT b = v at Kb sb ⊢
  have z1 : ({ data := #[32, 61, 32] } : ByteArray).size = 3 := rfl
  have c1 : ¬ (u.size + 3 > 9223372036854775807) := by omega
  have c2 : ¬ (u.size + 3 + v.size > 9223372036854775807) := by omega
  clear sa sb z1
  obtain ⟨hb0, d0, d1⟩ := two_newG w (.pointer (some ⟨p, 0, none⟩)) (.pointer (some ⟨q, 0, none⟩)) 68
  simp only [ptrV, Option.map_some]
  go_enter Tryd.func22, Tryd.ntmps22
  go_wp2_with fail
  generalize w.alloc (.cells #[.pointer (some ⟨p, 0, none⟩), .pointer (some ⟨q, 0, none⟩)] 68) = w0 at hb0 d0 d1 ⊢
  have hl0 : w.heap.size < w0.heap.size := World.block_lt_of_cell? w0 ⟨_, _, none⟩ d0
  go_region_held3 (fun w' => w'.cell? ⟨w.heap.size, 0, none⟩ = some (.pointer (some ⟨p, 0, none⟩)) ∧ w'.cell? ⟨w.heap.size, 1, none⟩ = some (.pointer (some ⟨q, 0, none⟩))) (first | (refine ⟨?_, ?_⟩ <;> assumption) | go_keep) (first
    | (go_at_call 36; have hx := hb01; refine (unhide Kb w01 (by exact hB01)).mono ?_; rintro e w02 ⟨rfl, hb02⟩; have f0 := (hb02.cell (p := ⟨w.heap.size, 0, none⟩) hl1).trans e0; have f1 := (hb02.cell (p := ⟨w.heap.size, 1, none⟩) hl1).trans e1; have hl2 : w.heap.size < w02.heap.size := World.block_lt_of_cell? w02 ⟨_, _, none⟩ f0; have hB02 := bstep hB01 hb02)
    | (go_at_call 36; refine (unhide Ka w0.drew (by exact hb0.drew)).mono ?_; rintro e w01 ⟨rfl, hb01⟩; have e0 := (hb01.cell (p := ⟨w.heap.size, 0, none⟩) hl0).trans d0; have e1 := (hb01.cell (p := ⟨w.heap.size, 1, none⟩) hl0).trans d1; have hl1 : w.heap.size < w01.heap.size := World.block_lt_of_cell? w01 ⟨_, _, none⟩ e0; have hB01 := bstep hb0.drew hb01))
  go_wp2
  go_ret
  exact ⟨rfl, hB02⟩

set_option maxRecDepth 100000 in
set_option maxHeartbeats 4000000 in
theorem goalText_cut (w : World) :
    Calls Tryd.prog 22 #[.iface 70 (.agg #[])] w fun e w' => e = .returned (.string (({ data := #[33] } : ByteArray))) ∧ Below w.heap.size w w' := by
  have t_call := ta_cut_call
  have t_same := ta_cut_same
  have t_cut := ta_cut_cut
  go_enter Tryd.func22, Tryd.ntmps22
  go_wp2
  go_ret
  exact ⟨rfl, by first | exact Below.refl _ _ | exact cell_below _ _⟩

set_option maxRecDepth 100000 in
set_option maxHeartbeats 4000000 in
theorem goalText_less (p : Nat) (q : Nat) (a : List C) (b : List C) (w : World) (Ha : TxtAt w p a) (sa : (textT a).size ≤ 132) (Hb : TxtAt w q b) (sb : (textT b).size ≤ 132) :
    Calls Tryd.prog 22 #[.iface 71 (.agg #[ptrV (some p), ptrV (some q)])] w fun e w' => e = .returned (.string (textT a ++ ({ data := #[32, 60, 32] } : ByteArray) ++ textT b)) ∧ Below w.heap.size w w' := by
  have t_call := ta_less_call
  have t_same := ta_less_same
  have t_cut := ta_less_cut
  have t_less := ta_less_less
  have Ka := hide Ha
  have Kb := hide Hb
  clear Ha Hb
  unfold TxtAt at Ka
  generalize textT a = u at Ka sa ⊢
  unfold TxtAt at Kb
  generalize textT b = v at Kb sb ⊢
  have z1 : ({ data := #[32, 60, 32] } : ByteArray).size = 3 := rfl
  have c1 : ¬ (u.size + 3 > 9223372036854775807) := by omega
  have c2 : ¬ (u.size + 3 + v.size > 9223372036854775807) := by omega
  clear sa sb z1
  obtain ⟨hb0, d0, d1⟩ := two_newG w (.pointer (some ⟨p, 0, none⟩)) (.pointer (some ⟨q, 0, none⟩)) 71
  simp only [ptrV, Option.map_some]
  go_enter Tryd.func22, Tryd.ntmps22
  go_wp2_with fail
  generalize w.alloc (.cells #[.pointer (some ⟨p, 0, none⟩), .pointer (some ⟨q, 0, none⟩)] 71) = w0 at hb0 d0 d1 ⊢
  have hl0 : w.heap.size < w0.heap.size := World.block_lt_of_cell? w0 ⟨_, _, none⟩ d0
  go_region_held3 (fun w' => w'.cell? ⟨w.heap.size, 0, none⟩ = some (.pointer (some ⟨p, 0, none⟩)) ∧ w'.cell? ⟨w.heap.size, 1, none⟩ = some (.pointer (some ⟨q, 0, none⟩))) (first | (refine ⟨?_, ?_⟩ <;> assumption) | go_keep) (first
    | (go_at_call 36; have hx := hb01; refine (unhide Kb w01 (by exact hB01)).mono ?_; rintro e w02 ⟨rfl, hb02⟩; have f0 := (hb02.cell (p := ⟨w.heap.size, 0, none⟩) hl1).trans e0; have f1 := (hb02.cell (p := ⟨w.heap.size, 1, none⟩) hl1).trans e1; have hl2 : w.heap.size < w02.heap.size := World.block_lt_of_cell? w02 ⟨_, _, none⟩ f0; have hB02 := bstep hB01 hb02)
    | (go_at_call 36; refine (unhide Ka w0.drew (by exact hb0.drew)).mono ?_; rintro e w01 ⟨rfl, hb01⟩; have e0 := (hb01.cell (p := ⟨w.heap.size, 0, none⟩) hl0).trans d0; have e1 := (hb01.cell (p := ⟨w.heap.size, 1, none⟩) hl0).trans d1; have hl1 : w.heap.size < w01.heap.size := World.block_lt_of_cell? w01 ⟨_, _, none⟩ e0; have hB01 := bstep hb0.drew hb01))
  go_wp2
  go_ret
  exact ⟨rfl, hB02⟩

set_option maxRecDepth 100000 in
set_option maxHeartbeats 4000000 in
theorem goalText_plus (p : Nat) (q : Nat) (r : Nat) (a : List C) (b : List C) (c : List C) (w : World) (Ha : TxtAt w p a) (sa : (textT a).size ≤ 132) (Hb : TxtAt w q b) (sb : (textT b).size ≤ 132) (Hc : TxtAt w r c) (sc : (textT c).size ≤ 132) :
    Calls Tryd.prog 22 #[.iface 73 (.agg #[ptrV (some p), ptrV (some q), ptrV (some r)])] w fun e w' => e = .returned (.string (textT a ++ ({ data := #[32, 43, 32] } : ByteArray) ++ textT b ++ ({ data := #[32, 61, 32] } : ByteArray) ++ textT c)) ∧ Below w.heap.size w w' := by
  have t_call := ta_plus_call
  have t_same := ta_plus_same
  have t_cut := ta_plus_cut
  have t_less := ta_plus_less
  have t_plus := ta_plus_plus
  have Ka := hide Ha
  have Kb := hide Hb
  have Kc := hide Hc
  clear Ha Hb Hc
  unfold TxtAt at Ka
  generalize textT a = u at Ka sa ⊢
  unfold TxtAt at Kb
  generalize textT b = v at Kb sb ⊢
  unfold TxtAt at Kc
  generalize textT c = x at Kc sc ⊢
  have z1 : ({ data := #[32, 43, 32] } : ByteArray).size = 3 := rfl
  have c1 : ¬ (u.size + 3 > 9223372036854775807) := by omega
  have c2 : ¬ (u.size + 3 + v.size > 9223372036854775807) := by omega
  have z2 : ({ data := #[32, 61, 32] } : ByteArray).size = 3 := rfl
  have c3 : ¬ (u.size + 3 + v.size + 3 > 9223372036854775807) := by omega
  have c4 : ¬ (u.size + 3 + v.size + 3 + x.size > 9223372036854775807) := by omega
  clear sa sb sc z1 z2
  obtain ⟨hb0, d0, d1, d2⟩ := three_new w (.pointer (some ⟨p, 0, none⟩)) (.pointer (some ⟨q, 0, none⟩)) (.pointer (some ⟨r, 0, none⟩)) 73
  simp only [ptrV, Option.map_some]
  go_enter Tryd.func22, Tryd.ntmps22
  go_wp2_with fail
  generalize w.alloc (.cells #[.pointer (some ⟨p, 0, none⟩), .pointer (some ⟨q, 0, none⟩), .pointer (some ⟨r, 0, none⟩)] 73) = w0 at hb0 d0 d1 d2 ⊢
  have hl0 : w.heap.size < w0.heap.size := World.block_lt_of_cell? w0 ⟨_, _, none⟩ d0
  go_region_held3 (fun w' => w'.cell? ⟨w.heap.size, 0, none⟩ = some (.pointer (some ⟨p, 0, none⟩)) ∧ w'.cell? ⟨w.heap.size, 1, none⟩ = some (.pointer (some ⟨q, 0, none⟩)) ∧ w'.cell? ⟨w.heap.size, 2, none⟩ = some (.pointer (some ⟨r, 0, none⟩))) (first | (refine ⟨?_, ?_, ?_⟩ <;> assumption) | go_keep) (first
    | (go_at_call 36; have hx := hb02; refine (unhide Kc w02 (by exact hB02)).mono ?_; rintro e w03 ⟨rfl, hb03⟩; have g0 := (hb03.cell (p := ⟨w.heap.size, 0, none⟩) hl2).trans f0; have g1 := (hb03.cell (p := ⟨w.heap.size, 1, none⟩) hl2).trans f1; have g2 := (hb03.cell (p := ⟨w.heap.size, 2, none⟩) hl2).trans f2; have hl3 : w.heap.size < w03.heap.size := World.block_lt_of_cell? w03 ⟨_, _, none⟩ g0; have hB03 := bstep hB02 hb03)
    | (go_at_call 36; have hx := hb01; refine (unhide Kb w01 (by exact hB01)).mono ?_; rintro e w02 ⟨rfl, hb02⟩; have f0 := (hb02.cell (p := ⟨w.heap.size, 0, none⟩) hl1).trans e0; have f1 := (hb02.cell (p := ⟨w.heap.size, 1, none⟩) hl1).trans e1; have f2 := (hb02.cell (p := ⟨w.heap.size, 2, none⟩) hl1).trans e2; have hl2 : w.heap.size < w02.heap.size := World.block_lt_of_cell? w02 ⟨_, _, none⟩ f0; have hB02 := bstep hB01 hb02)
    | (go_at_call 36; refine (unhide Ka w0.drew (by exact hb0.drew)).mono ?_; rintro e w01 ⟨rfl, hb01⟩; have e0 := (hb01.cell (p := ⟨w.heap.size, 0, none⟩) hl0).trans d0; have e1 := (hb01.cell (p := ⟨w.heap.size, 1, none⟩) hl0).trans d1; have e2 := (hb01.cell (p := ⟨w.heap.size, 2, none⟩) hl0).trans d2; have hl1 : w.heap.size < w01.heap.size := World.block_lt_of_cell? w01 ⟨_, _, none⟩ e0; have hB01 := bstep hb0.drew hb01))
  go_wp2
  go_ret
  exact ⟨rfl, hB03⟩
end Go.Proofs.YtajkmebjmdolaaaDoor
