/- Towards the walk of ring: the map of states; a stack of numbers; slices.Clone over numbers. -/
import Derived.Test.YtonpahhcfgdeoaaQBI1
import Derived.Test.YtonpahhcfgdeoaaQOpenW12PB5
namespace Go.Proofs.Ytonpahhcfgdeoaa
open Go.RowKit Go.Maps
set_option linter.unusedVariables false
set_option linter.unusedSimpArgs false

/-- How a variable stands: closed, opened, or neither. -/
def st (cl op : List Int) (v : Int) : Int := if v ∈ cl then 2 else if v ∈ op then 1 else 0
def TabS (cl op : List Int) (D : DataW Unit) : Prop := Maps.IsMap D ∧ ∀ x : Int, D.atKey (.int .i64 x) (.lit (.int .i64 0)) = .lit (.int .i64 (st cl op x))

theorem tabS_nil : TabS [] [] (.map [] : DataW Unit) := ⟨Maps.isMap_empty, fun x => rfl⟩
theorem tabS_put {cl op cl' op' : List Int} {D : DataW Unit} {v z : Int} (h : TabS cl op D) (hz : st cl' op' v = z) (ho : ∀ x, x ≠ v → st cl' op' x = st cl op x) : TabS cl' op' (D.put (.int .i64 v) (.lit (.int .i64 z))) := by
  refine ⟨h.1.put _ _, fun x => ?_⟩
  by_cases e : x = v
  · subst e
    rw [Maps.atKey_put_same h.1 (show WideAt.IsKeyLit (Lit.int .i64 x) from trivial), hz]
  · rw [Maps.atKey_put_other (by intro h'; apply e; simpa using h'), h.2 x, ho x e]
theorem tabS_close {cl op : List Int} {D : DataW Unit} {v : Int} (h : TabS cl (v :: op) D) (hv : v ∉ op) : TabS (v :: cl) op (D.put (.int .i64 v) (.lit (.int .i64 2))) :=
  tabS_put h (by simp [st]) (fun x hx => by simp [st, hx])
theorem tabS_pass {cl op : List Int} {D : DataW Unit} {v : Int} (h : TabS cl op D) (hv : v ∈ cl) : TabS cl op (D.put (.int .i64 v) (.lit (.int .i64 2))) :=
  tabS_put h (by simp [st, hv]) (fun x hx => rfl)
theorem tabS_open {cl op : List Int} {D : DataW Unit} {v : Int} (h : TabS cl op D) (hv : v ∉ cl) : TabS cl (v :: op) (D.put (.int .i64 v) (.lit (.int .i64 1))) :=
  tabS_put h (by simp [st, hv]) (fun x hx => by simp [st, hx])

theorem own_pop {w : World} {base n cap : Nat} {ao : Option Addr} {z : List Int} {x : Int} (h : OwnI w base (.slice ao n cap) (z ++ [x])) : OwnI w base (.slice ao z.length cap) z := by
  unfold OwnI at h ⊢
  have hl : (z ++ [x]).length = z.length + 1 := by simp
  rw [hl] at h
  refine ⟨by simp [nums], ?_⟩
  rcases h.2 with ⟨e, hn⟩ | ⟨g, cap', cur, e, hg, hh, hc, hm, hs, ht⟩
  · omega
  · simp only [Value.slice.injEq] at e
    obtain ⟨rfl, rfl, rfl⟩ := e
    refine .inr ⟨g, cap, cur, rfl, hg, hh, by omega, hm, hs, ?_⟩
    have : nums (z ++ [x]) = nums z ++ [.int .i64 x] := by simp [nums]
    rw [this] at ht
    have h3 : (nums z ++ [Value.int .i64 x]).take z.length = nums z := by
      rw [List.take_append_of_le_length (by simp [nums])]
      exact List.take_of_length_le (by simp [nums])
    have h2 : (cur.toList.take ((z.length + 1) * 1)).take z.length = (nums z ++ [Value.int .i64 x]).take z.length := by rw [ht]
    rw [List.take_take, h3, show min z.length ((z.length + 1) * 1) = z.length by omega] at h2
    rw [Nat.mul_one]
    exact h2

theorem nilInts (w : World) (a : Option Addr) (n c : Nat) : (binOp .eql 87 (.slice a n c) (.slice none 0 0)).run Try.prog w = .ok (.bool a.isNone) w := Lib.run_eql_slice_nil w _ _ a n c 0 0 Try.underlying87

theorem nums_one (z : List Int) : ∀ u ∈ nums z, u.oneCell' = true := by
  intro u hu
  obtain ⟨x, _, rfl⟩ := List.mem_map.1 hu
  rfl
theorem AtI.each {w : World} {b off : Nat} {z : List Int} (h : AtI w b off z) : ∀ j u, (nums z)[j]? = some u → w.cell? ((⟨b, off, none⟩ : Addr).add j) = some u := by
  intro j u hj
  have hl : j < z.length := by have := (List.getElem?_eq_some_iff.1 hj).1; simpa [nums] using this
  rw [nums_get z j hl] at hj
  rw [add_zero_spot, h j hl, hj]

/-- How many variables are still to be opened. -/
def unop (s : List B) (cl op : List Int) : Nat := ((s.map (·.v)).filter fun v => decide (v ∉ cl ∧ v ∉ op)).length
theorem unop_le (s : List B) (cl op : List Int) : unop s cl op ≤ s.length := by unfold unop; have := List.length_filter_le (fun v => decide (v ∉ cl ∧ v ∉ op)) (s.map (·.v)); simpa using this
theorem unop_open {s : List B} {cl op : List Int} {v : Int} (hm : v ∈ s.map (·.v)) (h1 : v ∉ cl) (h2 : v ∉ op) : unop s cl (v :: op) < unop s cl op := by
  unfold unop
  refine filter_lt hm (by simp [h1, h2]) (by simp) (fun x _ hx => ?_)
  simp only [decide_eq_true_eq, List.mem_cons, not_or] at hx ⊢
  exact ⟨hx.1, hx.2.2⟩
theorem unop_close {s : List B} {cl op : List Int} {v : Int} : unop s (v :: cl) op ≤ unop s cl (v :: op) := by
  unfold unop
  refine filter_le (fun x _ hx => ?_)
  simp only [decide_eq_true_eq, List.mem_cons, not_or] at hx ⊢
  exact ⟨hx.1.2, hx.1.1, hx.2⟩
end Go.Proofs.Ytonpahhcfgdeoaa
