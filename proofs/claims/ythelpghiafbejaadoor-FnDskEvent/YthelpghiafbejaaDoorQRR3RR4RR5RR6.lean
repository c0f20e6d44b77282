import Derived.Test.YthelpghiafbejaaDoorQRR2
import Derived.Test.YthelpghiafbejaaDoorQT2T3T4W6W7W18T5
import Derived.Deep.AppendLies
/- The reader of texts of the program: names with arguments, terms. -/
namespace Go.Proofs.YthelpghiafbejaaDoor
open Go.RowKit Go.Shelf
set_option linter.unusedVariables false
set_option linter.unusedSimpArgs false

/-- A name, and its arguments. -/
def nameRes (f : Nat) (l : List UInt8) : Option (List C × List UInt8 × Nat) :=
  if (l.dropWhile sml).head? = some 40 then
    match rtA f (l.dropWhile sml).tail with
    | none => none
    | some (ks, r', g) => some (⟨3, ks.length, mkS (l.takeWhile sml)⟩ :: ks.flatten, r', g)
  else some ([⟨3, 0, mkS (l.takeWhile sml)⟩], l.dropWhile sml, f)

theorem rtT_cons (f : Nat) (b : UInt8) (r : List UInt8) : rtT (f + 1) (b :: r) =
    if b = 88 then (match numRes 1 1 r with | none => none | some (c, r') => some ([c], r', f))
    else if b = 45 then (match numRes 2 (-1) r with | none => none | some (c, r') => some ([c], r', f))
    else if dig b then (match numRes 2 1 (b :: r) with | none => none | some (c, r') => some ([c], r', f))
    else nameRes f (b :: r) := by
  rw [rtT, rdWord_cons]
  by_cases h1 : b = 88
  · rw [if_pos h1, if_pos h1]
    unfold numRes
    cases hr : rdNum r with
    | none => rfl
    | some x =>
      obtain ⟨v, r'⟩ := x
      simp
  · rw [if_neg h1, if_neg h1]
    by_cases h2 : b = 45
    · rw [if_pos h2, if_pos h2]
      unfold numRes
      cases hr : rdNum r with
      | none => rfl
      | some x =>
        obtain ⟨v, r'⟩ := x
        by_cases hv : v = 0
        · subst hv; simp
        · simp [hv]
    · rw [if_neg h2, if_neg h2]
      by_cases h3 : dig b = true
      · rw [if_pos h3, if_pos h3]
        unfold numRes
        cases hr : rdNum (b :: r) with
        | none => rfl
        | some x =>
          obtain ⟨v, r'⟩ := x
          simp
      · rw [if_neg h3, if_neg h3]
        unfold nameRes mkS
        simp only [true_and]
        split
        · rfl
        · rfl

/-- Arguments behind those that are read. -/
def comb (zs : List (Nat × List (Nat × C))) (o : Option (List (List C) × List UInt8 × Nat)) : Option (List (List C) × List UInt8 × Nat) := match o with
  | none => none
  | some (ks, r, g) => some (zs.map (fun x => x.2.map (·.2)) ++ ks, r, g)

/-- How many places there may still be. -/
def pl (R : Nat) (W : World) : Nat := match W.cell? ⟨R, 1, none⟩ with
  | some (.int _ p) => (40 - p).toNat
  | _ => 0
end Go.Proofs.YthelpghiafbejaaDoor

/- The reader of texts of the program: the walks of name and term. -/
namespace Go.Proofs.YthelpghiafbejaaDoor
open Go.RowKit Go.Shelf
set_option linter.unusedVariables false
set_option linter.unusedSimpArgs false

/-- What the reader leans on. -/
structure Env (R : Nat) (w : World) : Prop where
  err : ErrT w R
  ten : ∀ w', w.grownBy w' (some R) → TenT w'
theorem Env.grown {R : Nat} {w w' : World} (h : Env R w) (hg : w.grownBy w' (some R)) : Env R w' := ⟨h.err.grown hg, fun w'' hg' => h.ten w'' (grownR_trans hg hg')⟩

end Go.Proofs.YthelpghiafbejaaDoor

/- The places of a tree in new memory; nil where they are no term. -/
namespace Go.Proofs.YthelpghiafbejaaDoor
open Go.RowKit Go.Shelf
set_option linter.unusedVariables false
set_option linter.unusedSimpArgs false
attribute [local go_sem] Oper.semAt_some
attribute [-go_sem] Go.Builtin.append_

end Go.Proofs.YthelpghiafbejaaDoor

/- The reader of texts of the program: the walks of term and TrmRead. -/
namespace Go.Proofs.YthelpghiafbejaaDoor
open Go.RowKit Go.Shelf
set_option linter.unusedVariables false
set_option linter.unusedSimpArgs false

def oneR (f : Nat) (o : Option (C × List UInt8)) : Option (List C × List UInt8 × Nat) := match o with
  | none => none
  | some (c, r') => some ([c], r', f)
end Go.Proofs.YthelpghiafbejaaDoor
