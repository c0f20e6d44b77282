import Derived.Test.YtkedckmpjedjoaaQW18GI6GI6call
import Derived.Test.YtkedckmpjedjoaaQGI6sameGI6cut
import Derived.Test.YtkedckmpjedjoaaQGI6lessGI6plus
import Derived.Test.YtkedckmpjedjoaaQGI6exit
import Derived.Test.YtkedckmpjedjoaaQT1Plain4T2
import Derived.Test.YtkedckmpjedjoaaQW1Mem2Mem3W9
import Derived.Test.YtkedckmpjedjoaaQW10W13
import Derived.Test.YtkedckmpjedjoaaQPlainMemOpen
/- goalOf of what is no kind; the program's GoalOk. -/
namespace Go.Proofs.Ytkedckmpjedjoaa
open Go.RowKit Go.Shelf
set_option linter.unusedVariables false
set_option linter.unusedSimpArgs false

theorem callT_kind (t : List C) : callT t = (kind0 t == 3) := by
  cases t with
  | nil => rfl
  | cons c r => rfl

set_option maxRecDepth 100000 in
set_option maxHeartbeats 4000000 in
theorem goalOf_other (k : Int) (hk : k < 1 ∨ 6 < k) (xa ya za : Option Addr) (xc yc zc : Nat) (a b c : List C) (w : World) (h : Trip w xa ya za a b c) (h1 : a.length ≤ xc ∧ xc ≤ maxLen) (h2 : b.length ≤ yc ∧ yc ≤ maxLen) (h3 : c.length ≤ zc ∧ zc ≤ maxLen) :
    Calls Try.prog 146 #[.agg #[.int .i64 k, .slice xa a.length xc, .slice ya b.length yc, .slice za c.length zc]] w fun e w' => e = .returned .nilIface ∧ Below w.heap.size w w' := by
  have HA := hide (fun (W : World) (hW : Below w.heap.size w W) => treeOf_opt w.heap.size xa xc a W hW.size h1.1 h1.2 ((h.below hW).ra) h.fa)
  have HB := hide (fun (W : World) (hW : Below w.heap.size w W) => treeOf_opt w.heap.size ya yc b W hW.size h2.1 h2.2 ((h.below hW).rb) h.fb)
  have HC := hide (fun (W : World) (hW : Below w.heap.size w W) => treeOf_opt w.heap.size za zc c W hW.size h3.1 h3.2 ((h.below hW).rc) h.fc)
  have hla := h.la
  have hlb := h.lb
  have hlc := h.lc
  clear h h1 h2 h3
  obtain ⟨hb0, d1, d2, d3⟩ := four_new w (.int .i64 k) (.slice xa a.length xc) (.slice ya b.length yc) (.slice za c.length zc) 93
  have d0 : (w.alloc (.cells #[.int .i64 k, .slice xa a.length xc, .slice ya b.length yc, .slice za c.length zc] 93)).cell? ⟨w.heap.size, 0, none⟩ = some (.int .i64 k) := by
    have hb := World.alloc_heap_new w (.cells #[.int .i64 k, .slice xa a.length xc, .slice ya b.length yc, .slice za c.length zc] 93)
    simp only [World.cell?]; rw [hb]; rfl
  go_enter Try.func146, Try.ntmps146
  go_wp2
  generalize w.alloc (.cells #[.int .i64 k, .slice xa a.length xc, .slice ya b.length yc, .slice za c.length zc] 93) = w0 at hb0 d0 d1 d2 d3 ⊢
  have hl0 : w.heap.size < w0.heap.size := World.block_lt_of_cell? w0 ⟨_, _, none⟩ d1
  go_region_held3 (fun w' => w'.cell? ⟨w.heap.size, 0, none⟩ = some (.int .i64 k) ∧ w'.cell? ⟨w.heap.size, 1, none⟩ = some (.slice xa a.length xc) ∧ w'.cell? ⟨w.heap.size, 2, none⟩ = some (.slice ya b.length yc) ∧ w'.cell? ⟨w.heap.size, 3, none⟩ = some (.slice za c.length zc)) (first | (refine ⟨?_, ?_, ?_, ?_⟩ <;> assumption) | go_keep) (first
    | (go_at_call 116; have hx := hb02; refine (unhide HC w02 (by exact hB02)).mono ?_; rintro e w03 ⟨o3, rfl, hk3, hb03⟩; have g0 := (hb03.cell (p := ⟨w.heap.size, 0, none⟩) hl2).trans f0; have g1 := (hb03.cell (p := ⟨w.heap.size, 1, none⟩) hl2).trans f1; have g2 := (hb03.cell (p := ⟨w.heap.size, 2, none⟩) hl2).trans f2; have g3 := (hb03.cell (p := ⟨w.heap.size, 3, none⟩) hl2).trans f3; have hB03 := bstep hB02 hb03)
    | (go_at_call 116; have hx := hb01; refine (unhide HB w01 (by exact hB01)).mono ?_; rintro e w02 ⟨o2, rfl, hk2, hb02⟩; have f0 := (hb02.cell (p := ⟨w.heap.size, 0, none⟩) hl1).trans e0; have f1 := (hb02.cell (p := ⟨w.heap.size, 1, none⟩) hl1).trans e1; have f2 := (hb02.cell (p := ⟨w.heap.size, 2, none⟩) hl1).trans e2; have f3 := (hb02.cell (p := ⟨w.heap.size, 3, none⟩) hl1).trans e3; have hl2 : w.heap.size < w02.heap.size := World.block_lt_of_cell? w02 ⟨_, _, none⟩ f1; have hB02 := bstep hB01 hb02)
    | (go_at_call 116; refine (unhide HA w0.drew hb0.drew).mono ?_; rintro e w01 ⟨o1, rfl, hk1, hb01⟩; have e0 := (hb01.cell (p := ⟨w.heap.size, 0, none⟩) hl0).trans d0; have e1 := (hb01.cell (p := ⟨w.heap.size, 1, none⟩) hl0).trans d1; have e2 := (hb01.cell (p := ⟨w.heap.size, 2, none⟩) hl0).trans d2; have e3 := (hb01.cell (p := ⟨w.heap.size, 3, none⟩) hl0).trans d3; have hl1 : w.heap.size < w01.heap.size := World.block_lt_of_cell? w01 ⟨_, _, none⟩ e1; have hB01 := bstep hb0.drew hb01))
  have n1 : ¬ k = 1 := by omega
  have n2 : ¬ k = 2 := by omega
  have n3 : ¬ k = 3 := by omega
  have n4 : ¬ k = 4 := by omega
  have n5 : ¬ k = 5 := by omega
  have n6 : ¬ k = 6 := by omega
  clear hb01 hb02 hb03 hB01 hB02 hb0 d0 d1 d2 d3 e0 e1 e2 e3 f0 f1 f2 f3 HA HB HC hl0 hl1 hl2 hx hk1 hk2 hk3 hk hla hlb hlc
  go_wp2
  go_ret
  exact ⟨rfl, hB03⟩

set_option maxRecDepth 100000 in
theorem mayStand_of_call (lo hi : Nat) (a b c : List C) (w1 : World) (v : Value) (hh : hi ≤ w1.heap.size) (hv : Goal_call lo hi a b c w1 v) :
    Calls Try.prog 169 #[v] w1 fun e w' => e = .returned (.bool (goalB 1 a b c)) ∧ Below w1.heap.size w1 w' := by
  rcases hv with ⟨hw, p, rfl, Ta⟩ | ⟨hw, rfl⟩
  · refine (mayStand_call p a w1 (Ta.isIn hh)).mono ?_
    rintro e w2 ⟨rfl, hb2⟩
    refine ⟨?_, hb2⟩
    unfold whole_call at hw; simp only [Bool.and_eq_true, beq_iff_eq] at hw; simp [goalB, l3T_fit a, callT_kind, hw, fitT, Bool.and_assoc]
  · refine (mayStand_nil w1).mono ?_
    rintro e w2 ⟨rfl, rfl⟩
    refine ⟨?_, Below.refl _ _⟩
    unfold whole_call at hw; simp only [goalB, l3T_fit a, callT_kind]; congr 2; revert hw; cases trm a <;> cases (kind0 a == 3) <;> cases b <;> cases c <;> simp
set_option maxRecDepth 100000 in
theorem mayStand_of_same (lo hi : Nat) (a b c : List C) (w1 : World) (v : Value) (hh : hi ≤ w1.heap.size) (hv : Goal_same lo hi a b c w1 v) :
    Calls Try.prog 169 #[v] w1 fun e w' => e = .returned (.bool (goalB 2 a b c)) ∧ Below w1.heap.size w1 w' := by
  rcases hv with ⟨hw, p, q, rfl, Ta, Tb⟩ | ⟨hw, rfl⟩
  · refine (mayStand_same p q a b w1 (Ta.isIn hh) (Tb.isIn hh)).mono ?_
    rintro e w2 ⟨rfl, hb2⟩
    refine ⟨?_, hb2⟩
    unfold whole_same at hw; simp only [Bool.and_eq_true, beq_iff_eq] at hw; simp [goalB, l3T_fit a, l3T_fit b, callT_kind, hw, fitT, Bool.and_assoc]
  · refine (mayStand_nil w1).mono ?_
    rintro e w2 ⟨rfl, rfl⟩
    refine ⟨?_, Below.refl _ _⟩
    unfold whole_same at hw; simp only [goalB, l3T_fit a, l3T_fit b]; congr 2; revert hw; cases trm a <;> cases trm b <;> cases c <;> simp
set_option maxRecDepth 100000 in
theorem mayStand_of_cut (lo hi : Nat) (a b c : List C) (w1 : World) (v : Value) (hh : hi ≤ w1.heap.size) (hv : Goal_cut lo hi a b c w1 v) :
    Calls Try.prog 169 #[v] w1 fun e w' => e = .returned (.bool (goalB 3 a b c)) ∧ Below w1.heap.size w1 w' := by
  rcases hv with ⟨hw, rfl⟩ | ⟨hw, rfl⟩
  · refine (mayStand_cut w1).mono ?_
    rintro e w2 ⟨rfl, hb2⟩
    refine ⟨?_, hb2⟩
    unfold whole_cut at hw; simp only [Bool.and_eq_true, beq_iff_eq] at hw; simp [goalB, hw.1.1, hw.1.2, hw.2]
  · refine (mayStand_nil w1).mono ?_
    rintro e w2 ⟨rfl, rfl⟩
    refine ⟨?_, Below.refl _ _⟩
    unfold whole_cut at hw; simp only [goalB]; congr 2; simp; revert hw; cases a <;> cases b <;> cases c <;> simp
set_option maxRecDepth 100000 in
theorem mayStand_of_less (lo hi : Nat) (a b c : List C) (w1 : World) (v : Value) (hh : hi ≤ w1.heap.size) (hv : Goal_less lo hi a b c w1 v) :
    Calls Try.prog 169 #[v] w1 fun e w' => e = .returned (.bool (goalB 4 a b c)) ∧ Below w1.heap.size w1 w' := by
  rcases hv with ⟨hw, p, q, rfl, Ta, Tb⟩ | ⟨hw, rfl⟩
  · refine (mayStand_less p q a b w1 (Ta.isIn hh) (Tb.isIn hh)).mono ?_
    rintro e w2 ⟨rfl, hb2⟩
    refine ⟨?_, hb2⟩
    unfold whole_less at hw; simp only [Bool.and_eq_true, beq_iff_eq] at hw; simp [goalB, l3T_fit a, l3T_fit b, callT_kind, hw, fitT, Bool.and_assoc]
  · refine (mayStand_nil w1).mono ?_
    rintro e w2 ⟨rfl, rfl⟩
    refine ⟨?_, Below.refl _ _⟩
    unfold whole_less at hw; simp only [goalB, l3T_fit a, l3T_fit b]; congr 2; revert hw; cases trm a <;> cases trm b <;> cases c <;> simp
set_option maxRecDepth 100000 in
theorem mayStand_of_plus (lo hi : Nat) (a b c : List C) (w1 : World) (v : Value) (hh : hi ≤ w1.heap.size) (hv : Goal_plus lo hi a b c w1 v) :
    Calls Try.prog 169 #[v] w1 fun e w' => e = .returned (.bool (goalB 5 a b c)) ∧ Below w1.heap.size w1 w' := by
  rcases hv with ⟨hw, p, q, r, rfl, Ta, Tb, Tc⟩ | ⟨hw, rfl⟩
  · refine (mayStand_plus p q r a b c w1 (Ta.isIn hh) (Tb.isIn hh) (Tc.isIn hh)).mono ?_
    rintro e w2 ⟨rfl, hb2⟩
    refine ⟨?_, hb2⟩
    unfold whole_plus at hw; simp only [Bool.and_eq_true, beq_iff_eq] at hw; simp [goalB, l3T_fit a, l3T_fit b, l3T_fit c, callT_kind, hw, fitT, Bool.and_assoc]
  · refine (mayStand_nil w1).mono ?_
    rintro e w2 ⟨rfl, rfl⟩
    refine ⟨?_, Below.refl _ _⟩
    unfold whole_plus at hw; simp only [goalB, l3T_fit a, l3T_fit b, l3T_fit c]; congr 2; revert hw; cases trm a <;> cases trm b <;> cases trm c <;> simp
set_option maxRecDepth 100000 in
theorem mayStand_of_exit (lo hi : Nat) (a b c : List C) (w1 : World) (v : Value) (hh : hi ≤ w1.heap.size) (hv : Goal_exit lo hi a b c w1 v) :
    Calls Try.prog 169 #[v] w1 fun e w' => e = .returned (.bool (goalB 6 a b c)) ∧ Below w1.heap.size w1 w' := by
  rcases hv with ⟨hw, p, rfl, Ta⟩ | ⟨hw, rfl⟩
  · refine (mayStand_exit (.agg #[ptrV (some p)]) w1).mono ?_
    rintro e w2 ⟨rfl, hb2⟩
    refine ⟨?_, hb2 ▸ Below.refl _ _⟩
    simp [goalB]
  · refine (mayStand_nil w1).mono ?_
    rintro e w2 ⟨rfl, rfl⟩
    refine ⟨?_, Below.refl _ _⟩
    simp [goalB]
end Go.Proofs.Ytkedckmpjedjoaa

/- The plain mathematics of bindings: what a variable is bound to, what leads where, what is full. -/
namespace Go.Proofs.Ytkedckmpjedjoaa
set_option linter.unusedVariables false
set_option linter.unusedSimpArgs false

/-- A binding: a variable, and what it is bound to. -/
structure B where
  v : Int
  t : List C

/-- What a variable is bound to; none, if it is not. -/
def getB : List B → Int → List C
  | [], _ => []
  | x :: r, v => if x.v = v then x.t else getB r v

theorem getB_hit {s : List B} {v : Int} {k : Nat} (hk : k < s.length) (hv : s[k].v = v) (hn : ∀ j, (h : j < k) → (s[j]'(by omega)).v ≠ v) : getB s v = s[k].t := by
  induction s generalizing k with
  | nil => simp at hk
  | cons x r ih =>
    cases k with
    | zero => simp at hv ⊢; simp [getB, hv]
    | succ k =>
      have h0 := hn 0 (by omega)
      simp at h0
      simp only [getB, if_neg h0, List.getElem_cons_succ]
      exact ih (by simpa using hk) (by simpa using hv) (fun j h => by have := hn (j + 1) (by omega); simpa using this)

theorem getB_none {s : List B} {v : Int} (hn : ∀ x ∈ s, x.v ≠ v) : getB s v = [] := by
  induction s with
  | nil => rfl
  | cons x r ih => simp only [getB, if_neg (hn x (by simp))]; exact ih (fun y hy => hn y (by simp [hy]))

theorem getB_mem {s : List B} {v : Int} (h : getB s v ≠ []) : ∃ x ∈ s, x.v = v ∧ x.t = getB s v := by
  induction s with
  | nil => exact absurd rfl h
  | cons x r ih =>
    by_cases e : x.v = v
    · exact ⟨x, by simp, e, by simp [getB, e]⟩
    · simp only [getB, if_neg e] at h ⊢
      obtain ⟨y, hy, h1, h2⟩ := ih h
      exact ⟨y, by simp [hy], h1, h2⟩

/-- No variable twice. -/
def Once (s : List B) : Prop := (s.map (·.v)).Nodup

theorem getB_of {s : List B} (h : Once s) {x : B} (hx : x ∈ s) : getB s x.v = x.t := by
  induction s with
  | nil => simp at hx
  | cons y r ih =>
    simp only [Once, List.map_cons, List.nodup_cons] at h
    rcases List.mem_cons.1 hx with rfl | hx
    · simp [getB]
    · have : y.v ≠ x.v := fun e => h.1 (by rw [e]; exact List.mem_map.2 ⟨x, hx, rfl⟩)
      simp only [getB, if_neg this]
      exact ih h.2 hx

theorem getB_append {s r : List B} {v : Int} : getB (s ++ r) v = if v ∈ s.map (·.v) then getB s v else getB r v := by
  induction s with
  | nil => simp
  | cons x s ih =>
    simp only [List.cons_append, getB, List.map_cons, List.mem_cons]
    by_cases e : x.v = v
    · simp [e]
    · have e' : v ≠ x.v := fun h => e h.symm
      simp only [if_neg e, ih, e', false_or]

/-- A variable stands among places. -/
def varIn (t : List C) (v : Int) : Prop := ∃ c ∈ t, c.k = 1 ∧ c.n = v

theorem varIn_nil (v : Int) : ¬ varIn [] v := fun ⟨c, h, _⟩ => by simp at h
theorem varIn_cons {c : C} {t : List C} {v : Int} : varIn (c :: t) v ↔ (c.k = 1 ∧ c.n = v) ∨ varIn t v := by
  constructor
  · rintro ⟨d, hd, h⟩
    rcases List.mem_cons.1 hd with rfl | hd
    · exact .inl h
    · exact .inr ⟨d, hd, h⟩
  · rintro (h | ⟨d, hd, h⟩)
    · exact ⟨c, by simp, h⟩
    · exact ⟨d, by simp [hd], h⟩
theorem varIn_append {t u : List C} {v : Int} : varIn (t ++ u) v ↔ varIn t v ∨ varIn u v := by
  constructor
  · rintro ⟨d, hd, h⟩
    rcases List.mem_append.1 hd with hd | hd
    · exact .inl ⟨d, hd, h⟩
    · exact .inr ⟨d, hd, h⟩
  · rintro (⟨d, hd, h⟩ | ⟨d, hd, h⟩)
    · exact ⟨d, by simp [hd], h⟩
    · exact ⟨d, by simp [hd], h⟩

/-- A variable can be come to from places. -/
inductive Reach (s : List B) (t : List C) : Int → Prop
  | here {v : Int} : varIn t v → Reach s t v
  | step {u v : Int} : Reach s t u → varIn (getB s u) v → Reach s t v

theorem Reach.mono {s : List B} {t u : List C} (h : ∀ v, varIn t v → Reach s u v) {v : Int} (hr : Reach s t v) : Reach s u v := by
  induction hr with
  | here h1 => exact h _ h1
  | step _ h2 ih => exact .step ih h2

/-- Each bound variable stands above the bound ones in what it is bound to. -/
def Ranked (s : List B) (ρ : Int → Nat) : Prop := ∀ v u, varIn (getB s v) u → getB s u ≠ [] → ρ u < ρ v

/-- No variable leads to itself. -/
def NoRing (s : List B) : Prop := ∀ v, getB s v ≠ [] → ¬ Reach s (getB s v) v

theorem ne_of_varIn {t : List C} {v : Int} (h : varIn t v) : t ≠ [] := fun e => by subst e; exact varIn_nil v h

theorem ranked_reach {s : List B} {ρ : Int → Nat} (h : Ranked s ρ) {w v : Int} (hr : Reach s (getB s w) v) : getB s v ≠ [] → ρ v < ρ w := by
  induction hr with
  | here h1 => exact fun h2 => h _ _ h1 h2
  | step _ h2 ih => exact fun h3 => Nat.lt_trans (h _ _ h2 h3) (ih (ne_of_varIn h2))

theorem ranked_noRing {s : List B} {ρ : Int → Nat} (h : Ranked s ρ) : NoRing s := fun v hv hr => Nat.lt_irrefl _ (ranked_reach h hr hv)

/-- What places are with all that is bound laid in, in so many steps. -/
inductive Exp (s : List B) : Nat → List C → List C → Prop
  | nil : Exp s 0 [] []
  | keep {n : Nat} {c : C} {r r' : List C} : (c.k = 1 → getB s c.n = []) → Exp s n r r' → Exp s (n + 1) (c :: r) (c :: r')
  | sub {m n : Nat} {c : C} {r r' b : List C} : c.k = 1 → getB s c.n ≠ [] → Exp s m (getB s c.n) b → Exp s n r r' → Exp s (m + n + 1) (c :: r) (b ++ r')

theorem Exp.append {s : List B} {m n : Nat} {a a' b b' : List C} (h : Exp s m a a') (k : Exp s n b b') : Exp s (m + n) (a ++ b) (a' ++ b') := by
  induction h with
  | nil => simpa using k
  | keep hc _ ih => rw [List.cons_append, List.cons_append, show ∀ x : Nat, x + 1 + n = x + n + 1 by intro x; omega]; exact .keep hc ih
  | @sub m n' c r r' b1 h1 h2 h3 _ _ ih =>
    rw [List.cons_append, List.append_assoc, show m + n' + 1 + n = m + (n' + n) + 1 by omega]
    exact .sub h1 h2 h3 ih

theorem Exp.det {s : List B} {m : Nat} {a a' : List C} (h : Exp s m a a') : ∀ {n : Nat} {a'' : List C}, Exp s n a a'' → a' = a'' ∧ m = n := by
  induction h with
  | nil => intro n a'' k; cases k; exact ⟨rfl, rfl⟩
  | keep hc _ ih =>
    intro n a'' k
    cases k with
    | keep _ k => obtain ⟨e1, e2⟩ := ih k; exact ⟨by rw [e1], by omega⟩
    | sub k1 k2 _ _ => exact absurd (hc k1) k2
  | sub h1 h2 _ _ ih1 ih2 =>
    intro n a'' k
    cases k with
    | keep kc _ => exact absurd (kc h1) h2
    | sub _ _ k3 k4 =>
      obtain ⟨e1, e2⟩ := ih1 k3
      obtain ⟨e3, e4⟩ := ih2 k4
      exact ⟨by rw [e1, e3], by omega⟩

/-- What is laid in has no fewer places, and none where there was none. -/
theorem Exp.len {s : List B} {m : Nat} {a a' : List C} (h : Exp s m a a') : a.length ≤ a'.length := by
  induction h with
  | nil => simp
  | keep _ _ ih => simp; omega
  | sub h1 h2 h3 _ ih1 ih2 =>
    rw [List.length_cons, List.length_append]
    have : 1 ≤ (getB s _).length := List.length_pos_iff.2 h2
    omega

theorem Exp.steps {s : List B} {m : Nat} {a a' : List C} (h : Exp s m a a') : a.length ≤ m := by
  induction h with
  | nil => simp
  | keep _ _ ih => simp; omega
  | sub _ _ _ _ _ ih => simp; omega

/-- Nothing that is full is bound. -/
theorem Exp.free {s : List B} {m : Nat} {a a' : List C} (h : Exp s m a a') : ∀ c ∈ a', c.k = 1 → getB s c.n = [] := by
  induction h with
  | nil => simp
  | keep hc _ ih =>
    intro c hm hk
    rcases List.mem_cons.1 hm with rfl | hm
    · exact hc hk
    · exact ih c hm hk
  | sub _ _ _ _ ih1 ih2 =>
    intro c hm hk
    rcases List.mem_append.1 hm with hm | hm
    · exact ih1 c hm hk
    · exact ih2 c hm hk

theorem Exp.self {s : List B} : ∀ {a : List C}, (∀ c ∈ a, c.k = 1 → getB s c.n = []) → Exp s a.length a a
  | [], _ => .nil
  | c :: a, h => .keep (h c (by simp)) (Exp.self (fun d hd => h d (by simp [hd])))

theorem exp_ranked {s : List B} {ρ : Int → Nat} (h : Ranked s ρ) : ∀ (r : Nat) (t : List C), (∀ v, varIn t v → getB s v ≠ [] → ρ v < r) → ∃ n t', Exp s n t t' := by
  intro r
  induction r with
  | zero =>
    intro t ht
    exact ⟨_, _, Exp.self (fun c hc hk => Classical.byContradiction fun hn => absurd (ht c.n ⟨c, hc, hk, rfl⟩ hn) (Nat.not_lt_zero _))⟩
  | succ r ih =>
    intro t
    induction t with
    | nil => intro _; exact ⟨0, [], .nil⟩
    | cons c t iht =>
      intro ht
      obtain ⟨n, t', hE⟩ := iht (fun v hv => ht v (varIn_cons.2 (.inr hv)))
      by_cases hk : c.k = 1
      · by_cases hb : getB s c.n = []
        · exact ⟨_, _, .keep (fun _ => hb) hE⟩
        · have hc := ht c.n (varIn_cons.2 (.inl ⟨hk, rfl⟩)) hb
          obtain ⟨m, b, hb'⟩ := ih (getB s c.n) (fun v hv hn => by have := h c.n v hv hn; omega)
          exact ⟨_, _, .sub hk hb hb' hE⟩
      · exact ⟨_, _, .keep (fun h' => absurd h' hk) hE⟩

/-- A bound on the ranks of all variables of places. -/
theorem rank_bound (ρ : Int → Nat) : ∀ t : List C, ∃ r, ∀ v, varIn t v → ρ v < r
  | [] => ⟨0, fun v h => absurd h (varIn_nil v)⟩
  | c :: t => by
      obtain ⟨r, hr⟩ := rank_bound ρ t
      refine ⟨max r (ρ c.n + 1), fun v hv => ?_⟩
      rcases varIn_cons.1 hv with ⟨_, rfl⟩ | hv
      · omega
      · have := hr v hv; omega

theorem exp_all {s : List B} {ρ : Int → Nat} (h : Ranked s ρ) (t : List C) : ∃ n t', Exp s n t t' := by
  obtain ⟨r, hr⟩ := rank_bound ρ t
  exact exp_ranked h r t (fun v hv _ => hr v hv)

/-- What SubFull is of ok bindings and a term. -/
noncomputable def fullOk (s : List B) (t : List C) : Option (List C) := by
  classical
  exact if h : ∃ n t', Exp s n t t' then (if (Classical.choose (Classical.choose_spec h)).length ≤ 40 then some (Classical.choose (Classical.choose_spec h)) else none) else none

theorem fullOk_of {s : List B} {n : Nat} {t t' : List C} (h : Exp s n t t') : fullOk s t = if t'.length ≤ 40 then some t' else none := by
  have hx : ∃ n t', Exp s n t t' := ⟨n, t', h⟩
  unfold fullOk
  rw [dif_pos hx]
  have e := (Classical.choose_spec (Classical.choose_spec hx)).det h
  rw [e.1]
end Go.Proofs.Ytkedckmpjedjoaa

/- Bindings in memory: a slice of structs, each a number and a slice of places. -/
namespace Go.Proofs.Ytkedckmpjedjoaa
open Go.RowKit
set_option linter.unusedVariables false
set_option linter.unusedSimpArgs false

/-- From cell 'off' of block b on lie bindings, two cells each. -/
def AtB (w : World) (b off : Nat) (s : List B) : Prop :=
  ∀ i, (h : i < s.length) → w.cell? ⟨b, off + i * 2, none⟩ = some (.int .i64 s[i].v) ∧ ∃ ao cap, w.cell? ⟨b, off + i * 2 + 1, none⟩ = some (.slice ao s[i].t.length cap) ∧ s[i].t.length ≤ cap ∧ cap ≤ maxLen ∧ Row w ao s[i].t

def RowB (w : World) (ao : Option Addr) (s : List B) : Prop := s = [] ∨ ∃ b off, ao = some ⟨b, off, none⟩ ∧ AtB w b off s

/-- All that bindings hold fits. -/
def FitB (s : List B) : Prop := ∀ x ∈ s, Fit x.t ∧ WfC x.t ∧ (Lit.int .i64 x.v).wf = true

theorem AtB.below {w w' : World} {b off : Nat} {s : List B} (h : AtB w b off s) (hb : Below w.heap.size w w') : AtB w' b off s := fun i hi => by
  obtain ⟨h1, ao, cap, h2, h3, h4, h5⟩ := h i hi
  exact ⟨(hb.cell (p := ⟨b, _, none⟩) (World.block_lt_of_cell? w _ h1)).trans h1, ao, cap, (hb.cell (p := ⟨b, _, none⟩) (World.block_lt_of_cell? w _ h2)).trans h2, h3, h4, h5.below hb⟩
theorem RowB.below {w w' : World} {ao : Option Addr} {s : List B} (h : RowB w ao s) (hb : Below w.heap.size w w') : RowB w' ao s := by
  rcases h with h | ⟨b, off, e, h⟩
  · exact .inl h
  · exact .inr ⟨b, off, e, h.below hb⟩

/-- How many places bindings hold together. -/
def tot : List B → Nat
  | [] => 0
  | x :: s => x.t.length + tot s
theorem tot_append (s r : List B) : tot (s ++ r) = tot s + tot r := by
  induction s with
  | nil => simp [tot]
  | cons x s ih => simp [tot, ih]; omega
theorem tot_take_succ {s : List B} {k : Nat} (h : k < s.length) : tot (s.take (k + 1)) = tot (s.take k) + s[k].t.length := by
  rw [List.take_succ_eq_append_getElem h, tot_append]; simp [tot]
theorem tot_mem {s : List B} {x : B} (h : x ∈ s) : x.t.length ≤ tot s := by
  induction s with
  | nil => simp at h
  | cons y s ih =>
    rcases List.mem_cons.1 h with rfl | h
    · simp [tot]
    · have := ih h; simp [tot]; omega
theorem tot_take_le (s : List B) (k : Nat) : tot (s.take k) ≤ tot s := by
  conv => rhs; rw [← List.take_append_drop k s, tot_append]
  omega

def flatB : List B → List Value → List Value
  | x :: s, u :: us => .int .i64 x.v :: u :: flatB s us
  | _, _ => []

theorem flatB_length : ∀ (s : List B) (us : List Value), us.length = s.length → (flatB s us).length = s.length * 2
  | [], us, h => by cases us <;> rfl
  | x :: s, [], h => by simp at h
  | x :: s, u :: us, h => by have := flatB_length s us (by simpa using h); simp [flatB, this]; omega

theorem flatB_get : ∀ (s : List B) (us : List Value), us.length = s.length → ∀ (i : Nat) (h : i < s.length) (h' : i < us.length), (flatB s us)[i * 2]? = some (.int .i64 s[i].v) ∧ (flatB s us)[i * 2 + 1]? = some us[i]
  | x :: s, u :: us, hl, 0, h, h' => ⟨rfl, rfl⟩
  | x :: s, u :: us, hl, i + 1, h, h' => by
      have := flatB_get s us (by simpa using hl) i (by simpa using h) (by simpa using h')
      rw [show (i + 1) * 2 = i * 2 + 2 by omega]
      simpa [flatB] using this

theorem flatB_append : ∀ (s r : List B) (us vs : List Value), us.length = s.length → flatB (s ++ r) (us ++ vs) = flatB s us ++ flatB r vs
  | [], r, us, vs, h => by cases us with | nil => simp [flatB] | cons _ _ => simp at h
  | x :: s, r, [], vs, h => by simp at h
  | x :: s, r, u :: us, vs, h => by simp [flatB, flatB_append s r us vs (by simpa using h)]

theorem flatB_set_var : ∀ (s : List B) (us : List Value), us.length = s.length → ∀ (i : Nat) (z : Int) (h : i < s.length), (flatB s us).set (i * 2) (.int .i64 z) = flatB (s.set i ⟨z, s[i].t⟩) us
  | x :: s, u :: us, hl, 0, z, h => by simp [flatB]
  | x :: s, u :: us, hl, i + 1, z, h => by
      have := flatB_set_var s us (by simpa using hl) i z (by simpa using h)
      rw [show (i + 1) * 2 = i * 2 + 1 + 1 by omega]
      simp [flatB, this]

theorem flatB_set_term : ∀ (s : List B) (us : List Value) (i : Nat) (t : List C) (h : i < s.length), flatB (s.set i ⟨s[i].v, t⟩) us = flatB s us
  | [], us, i, t, h => by simp at h
  | x :: s, [], i, t, h => by cases i <;> rfl
  | x :: s, u :: us, 0, t, h => rfl
  | x :: s, u :: us, i + 1, t, h => by
      have := flatB_set_term s us i t (by simpa using h)
      simp [flatB, this]

/-- What is owned hangs on its own block alone. -/
theorem own_block {w w' : World} {base e size n : Nat} {v : Value} {xs : List Value} (h : w.ownsRow base e size v n xs) (hb : ∀ k, v.ownBlock = some k → w'.heap[k]? = w.heap[k]?) : w'.ownsRow base e size v n xs := by
  refine ⟨h.1, ?_⟩
  rcases h.2 with h2 | ⟨g, cap, cur, rfl, hg, hh, r⟩
  · exact .inl h2
  · exact .inr ⟨g, cap, cur, rfl, hg, (hb g rfl).trans hh, r⟩

theorem own_lo {w : World} {base base' e size n : Nat} {v : Value} {xs : List Value} (h : w.ownsRow base e size v n xs) (hb : ∀ k, v.ownBlock = some k → base' ≤ k) : w.ownsRow base' e size v n xs := by
  refine ⟨h.1, ?_⟩
  rcases h.2 with h2 | ⟨g, cap, cur, rfl, hg, r⟩
  · exact .inl h2
  · exact .inr ⟨g, cap, cur, rfl, hb g rfl, r⟩

/-- A slice value owns bindings, all in blocks from lo to hi, each term in a block of its own. -/
def OwnB (w : World) (lo hi : Nat) (v : Value) (s : List B) : Prop :=
  ∃ us : List Value, us.length = s.length ∧ w.ownsRow lo 172 2 v s.length (flatB s us) ∧ (∀ i, (h : i < s.length) → (h' : i < us.length) → OwnC w lo us[i] s[i].t) ∧ (us.filterMap Value.ownBlock).Nodup ∧
    (∀ u ∈ us, ∀ k, u.ownBlock = some k → k < hi) ∧ ∀ k, v.ownBlock = some k → k < hi

/-- Only blocks from lo to hi may have turned. -/
structure Btw (lo hi : Nat) (w w' : World) : Prop where
  os : w'.os = w.os
  tape : w'.tape = w.tape
  output : w'.output = w.output
  size : w.heap.size ≤ w'.heap.size
  block : ∀ k, k < w.heap.size → (k < lo ∨ hi ≤ k) → w'.heap[k]? = w.heap[k]?

theorem Btw.refl (lo hi : Nat) (w : World) : Btw lo hi w w := ⟨rfl, rfl, rfl, Nat.le_refl _, fun _ _ _ => rfl⟩
theorem Btw.trans {lo hi : Nat} {a b c : World} (h : Btw lo hi a b) (k : Btw lo hi b c) : Btw lo hi a c :=
  ⟨k.os.trans h.os, k.tape.trans h.tape, k.output.trans h.output, Nat.le_trans h.size k.size, fun i hi' hr => (k.block i (Nat.lt_of_lt_of_le hi' h.size) hr).trans (h.block i hi' hr)⟩
theorem Btw.of_below {lo hi : Nat} {a b : World} (h : Below a.heap.size a b) : Btw lo hi a b := ⟨h.os, h.tape, h.output, h.size, fun i hi' _ => h.block i hi'⟩
theorem Btw.of_grown {lo hi : Nat} {a b : World} {row : Option Nat} (h : a.grownBy b row) (hr : ∀ k, row = some k → lo ≤ k ∧ k < hi) : Btw lo hi a b :=
  ⟨h.os, h.tape, h.output, h.size, fun i hi' hb => h.block i hi' (fun e => by have := hr i e.symm; omega)⟩
theorem Btw.below {lo hi : Nat} {a w w' : World} (h : Below a.heap.size a w) (k : Btw lo hi w w') (hl : a.heap.size ≤ lo) : Below a.heap.size a w' :=
  ⟨k.os.trans h.os, k.tape.trans h.tape, k.output.trans h.output, Nat.le_trans h.size k.size, fun i hi' => (k.block i (Nat.lt_of_lt_of_le hi' h.size) (.inl (by omega))).trans (h.block i hi')⟩

theorem OwnB.kept {w w' : World} {lo hi : Nat} {v : Value} {s : List B} (h : OwnB w lo hi v s) (hb : ∀ k, lo ≤ k → k < hi → w'.heap[k]? = w.heap[k]?) : OwnB w' lo hi v s := by
  obtain ⟨us, h1, h2, h3, h4, h5, h6⟩ := h
  refine ⟨us, h1, own_block h2 (fun k e => hb k (h2.lt k e).1 (h6 k e)), fun i hi' hi'' => ?_, h4, h5, h6⟩
  exact own_block (h3 i hi' hi'') (fun k e => hb k ((h3 i hi' hi'').lt k e).1 (h5 _ (List.getElem_mem hi'') k e))

theorem OwnB.hi_le {w : World} {lo hi hi' : Nat} {v : Value} {s : List B} (h : OwnB w lo hi v s) (hh : hi ≤ hi') : OwnB w lo hi' v s := by
  obtain ⟨us, h1, h2, h3, h4, h5, h6⟩ := h
  exact ⟨us, h1, h2, h3, h4, fun u hu k e => Nat.lt_of_lt_of_le (h5 u hu k e) hh, fun k e => Nat.lt_of_lt_of_le (h6 k e) hh⟩

theorem OwnB.lo_le {w : World} {lo lo' hi : Nat} {v : Value} {s : List B} (h : OwnB w lo hi v s) (hl : lo' ≤ lo) : OwnB w lo' hi v s := by
  obtain ⟨us, h1, h2, h3, h4, h5, h6⟩ := h
  exact ⟨us, h1, own_lo h2 (fun k e => Nat.le_trans hl (h2.lt k e).1), fun i hi' hi'' => own_lo (h3 i hi' hi'') (fun k e => Nat.le_trans hl ((h3 i hi' hi'').lt k e).1), h4, h5, h6⟩

theorem OwnB.below {w w' : World} {lo hi : Nat} {v : Value} {s : List B} (h : OwnB w lo hi v s) (hh : hi ≤ w.heap.size) (hb : Below w.heap.size w w') : OwnB w' lo hi v s :=
  h.kept (fun k _ hk => hb.block k (by omega))

theorem OwnB.shape {w : World} {lo hi : Nat} {v : Value} {s : List B} (h : OwnB w lo hi v s) : ∃ ao cap, v = .slice ao s.length cap ∧ s.length ≤ cap ∧ cap ≤ maxLen ∧ RowB w ao s := by
  obtain ⟨us, h1, h2, h3, h4, h5, h6⟩ := h
  have h2' := h2
  rcases h2.2 with ⟨e, hn⟩ | ⟨g, cap, cur, e, hg, hh, hc, hm, _⟩
  · have hs : s = [] := List.length_eq_zero_iff.1 hn
    subst hs
    exact ⟨none, 0, e, Nat.le_refl _, Nat.zero_le _, .inl rfl⟩
  · subst e
    refine ⟨_, _, rfl, hc, hm, .inr ⟨g, 0, rfl, fun i hi' => ?_⟩⟩
    have hi'' : i < us.length := by omega
    have f := flatB_get s us h1 i hi' hi''
    have e0 := h2'.cellAt (i * 2) (by omega)
    have e1 := h2'.cellAt (i * 2 + 1) (by omega)
    have ho := h3 i hi' hi''
    rw [Nat.zero_add]
    rcases ho.2 with ⟨eu, hn⟩ | ⟨gu, cu, _, eu, _, hgb, q1, q2, _⟩
    · have ht : s[i].t = [] := List.length_eq_zero_iff.1 hn
      refine ⟨e0.trans f.1, none, 0, ?_, by rw [ht]; simp, by simp, .inl ht⟩
      rw [e1, f.2, eu, ht]; rfl
    · refine ⟨e0.trans f.1, some ⟨gu, 0, none⟩, cu, by rw [e1, f.2, eu], q1, q2, ?_⟩
      rw [eu] at ho
      exact .inr ⟨gu, 0, rfl, owns_at ho rfl⟩

theorem OwnB.row {w : World} {lo hi n cap : Nat} {ao : Option Addr} {s : List B} (h : OwnB w lo hi (.slice ao n cap) s) : RowB w ao s := by
  obtain ⟨ao', cap', e, _, _, hR⟩ := h.shape
  simp only [Value.slice.injEq] at e
  obtain ⟨rfl, _, _⟩ := e
  exact hR
end Go.Proofs.Ytkedckmpjedjoaa
