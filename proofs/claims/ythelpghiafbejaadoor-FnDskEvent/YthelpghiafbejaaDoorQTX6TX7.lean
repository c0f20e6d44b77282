import Derived.Test.YthelpghiafbejaaDoorQTX5T1
import Derived.Test.YthelpghiafbejaaDoorQT2T3T4W6W7W18T5
/- The program: a tree's arguments, written. -/
namespace Go.Proofs.YthelpghiafbejaaDoor
open Go.RowKit
set_option linter.unusedVariables false
set_option linter.unusedSimpArgs false

theorem joinB_snoc : ∀ (us : List ByteArray) (u : ByteArray), us ≠ [] → joinB (us ++ [u]) = joinB us ++ cmB ++ u
  | [], u, h => absurd rfl h
  | [a], u, _ => by simp [joinB]
  | a :: b :: r, u, _ => by
      have ih := joinB_snoc (b :: r) u (by simp)
      rw [List.cons_append, List.cons_append]
      simp only [joinB]
      rw [← List.cons_append, ih]
      simp only [ByteArray.append_assoc]
/-- The arguments so far, with the bracket ahead of them. -/
def preB : List ByteArray → ByteArray
  | [] => ByteArray.empty
  | u :: r => lpB ++ joinB (u :: r)
def betB (us : List ByteArray) : ByteArray := match us with
  | [] => lpB
  | _ => cmB
theorem preB_snoc (us : List ByteArray) (u : ByteArray) : preB (us ++ [u]) = preB us ++ betB us ++ u := by
  cases us with
  | nil => simp [preB, betB, joinB]
  | cons a r =>
    have h := joinB_snoc (a :: r) u (by simp)
    show lpB ++ joinB (a :: (r ++ [u])) = lpB ++ joinB (a :: r) ++ cmB ++ u
    rw [← List.cons_append, h]
    simp only [ByteArray.append_assoc]
theorem betB_size (us : List ByteArray) : (betB us).size = 1 := by cases us <;> rfl

theorem join_size : ∀ (ks : List (List C)) (us : List ByteArray), us.length = ks.length → (∀ i (h1 : i < ks.length) (h2 : i < us.length), us[i].size + 1 ≤ 11 * ks[i].length) → (joinB us).size ≤ 11 * ks.flatten.length
  | [], [], _, _ => by simp [joinB]
  | [k], [u], _, h => by
      have := h 0 (by simp) (by simp)
      simp [joinB] at this ⊢
      omega
  | k :: k' :: ks, u :: u' :: us, hl, h => by
      have h0 := h 0 (by simp) (by simp)
      have ih := join_size (k' :: ks) (u' :: us) (by simpa using hl) (fun i h1 h2 => h (i + 1) (Nat.succ_lt_succ h1) (Nat.succ_lt_succ h2))
      simp only [List.getElem_cons_zero] at h0
      rw [List.flatten_cons, List.length_append]
      simp only [joinB]
      rw [ByteArray.size_append, ByteArray.size_append, show cmB.size = 1 from rfl]
      omega
  | [_], [], hl, _ => by simp at hl
  | [], _ :: _, hl, _ => by simp at hl
  | [_], _ :: _ :: _, hl, _ => by simp at hl
  | _ :: _ :: _, [], hl, _ => by simp at hl
  | _ :: _ :: _, [_], hl, _ => by simp at hl
theorem txt_size {t : List C} {u : ByteArray} (h : Txt wordB t u) : (∀ c ∈ t, okC c = true) → u.size + 1 ≤ 11 * t.length := by
  induction h with
  | @leaf c h0 =>
    intro hok
    have := wordB_size (hok c (by simp))
    simp
    omega
  | @node c ks us hne hl hu hk ih =>
    intro hok
    have h1 := wordB_size (hok c (by simp))
    have h2 := join_size ks us hu (fun i a b => ih i a b (fun d hd => hok d (by simp only [List.mem_cons, List.mem_flatten]; exact .inr ⟨ks[i], List.getElem_mem a, hd⟩)))
    rw [ByteArray.size_append, ByteArray.size_append, ByteArray.size_append, show lpB.size = 1 from rfl, show rpB.size = 1 from rfl, List.length_cons]
    omega

def szK (ks : List (Nat × List (Nat × C))) : Nat := (ks.map fun k => k.2.length).sum
theorem szK_flat (ks : List (Nat × List (Nat × C))) : (ks.map (·.2)).flatten.length = szK ks := by simp [szK, List.length_flatten, Function.comp_def]
theorem szK_step {ks : List (Nat × List (Nat × C))} {j : Nat} (h : j < ks.length) : szK (ks.take (j + 1)) = szK (ks.take j) + ks[j].2.length := by
  unfold szK
  rw [List.take_add_one, List.getElem?_eq_getElem h, List.map_append, List.sum_append]
  simp only [Option.toList_some, List.map_cons, List.map_nil, List.sum_cons, List.sum_nil, Nat.add_zero]
theorem szK_le (ks : List (Nat × List (Nat × C))) (j : Nat) : szK (ks.take j) ≤ szK ks := by
  have h : szK ks = szK (ks.take j) + szK (ks.drop j) := by
    unfold szK
    rw [← List.sum_append, ← List.map_append, List.take_append_drop]
  omega

theorem cell_b0 {w0 w : World} {a : Addr} {v : Value} (h : Below w0.heap.size w0 w) (hc : w0.cell? a = some v) : w.cell? a = some v := (h.cell (World.block_lt_of_cell? w0 a hc)).trans hc

end Go.Proofs.YthelpghiafbejaaDoor

/- The program: a tree written, its text; TrmText. -/
namespace Go.Proofs.YthelpghiafbejaaDoor
open Go.RowKit
set_option linter.unusedVariables false
set_option linter.unusedSimpArgs false

/-- A term's text; none, if places are no term. -/
def textT (t : List C) : ByteArray := if trm t then textOf wordB t else ByteArray.empty

end Go.Proofs.YthelpghiafbejaaDoor
