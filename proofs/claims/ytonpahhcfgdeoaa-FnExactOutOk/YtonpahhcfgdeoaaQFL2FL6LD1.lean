import Derived.Test.YtonpahhcfgdeoaaQBO1
import Derived.Test.YtonpahhcfgdeoaaQPB2PB3
import Derived.Deep.LoopGhost
import Derived.Test.YtonpahhcfgdeoaaQPB4W1
import Derived.Test.YtonpahhcfgdeoaaQW7W18T5BR1BG1
import Derived.Test.YtonpahhcfgdeoaaQRG1
/- The walk of now: what stands for a tree. -/
namespace Go.Proofs.Ytonpahhcfgdeoaa
open Go.RowKit Go.Maps
set_option linter.unusedVariables false
set_option linter.unusedSimpArgs false

theorem TreeAt.top {S : Nat → Prop} {W : World} {p : Nat} {t : List C} (h : TreeAt S W p t) : ∃ c r v, t = c :: r ∧ Node W p c v := by
  obtain ⟨z, ⟨c, ks, ao, cap, e, _, _, hn, _⟩, rfl⟩ := h
  exact ⟨c, _, _, by rw [e]; rfl, hn⟩

/-- All cells of bound terms are ok. -/
def OkT (s : List B) : Prop := ∀ v, ∀ c ∈ getB s v, okC c = true

/-- What now tells. -/
def NowOut (S : Nat → Prop) (x : List C) (w : World) (e : Ending) (w' : World) : Prop := ∃ p, e = .returned (.pointer (some ⟨p, 0, none⟩)) ∧ TreeAt S w' p x ∧ Below w.heap.size w w'

def NowAt2 (S : Nat → Prop) (s : List B) (x : List C) (w : World) (k : Nat) (o : Value) (wr : World) : Prop := ∃ p t, o = .pointer (some ⟨p, 0, none⟩) ∧ TreeAt S wr p t ∧ Now s k t x ∧ (∀ c ∈ t, okC c = true) ∧ Below w.heap.size w wr

set_option maxRecDepth 100000 in
set_option maxHeartbeats 4000000 in
theorem now_any (lo P p : Nat) (S : Nat → Prop) (s : List B) (t x : List C) (n : Nat) (w : World) (hs : s.length ≤ 4194304) (hB : Bnd lo w P S s) (hT : TreeAt S w p t) (hN : Now s n t x) (hok : ∀ c ∈ t, okC c = true) (hokT : OkT s) :
    Calls Try.prog 99 #[.pointer (some ⟨P, 0, none⟩), .pointer (some ⟨p, 0, none⟩)] w fun e w' => w' = w ∧ NowOut S x w e w' := by
  have HT := hide hT
  have HN := hide hN
  have HOK := hide hok
  have HOKT := hide hokT
  clear hT hN hok hokT
  go_enter Try.func99, Try.ntmps99
  go_wp2
  go_loopg [1] n (fun k o wr => wr = w ∧ NowAt2 S s x w k o wr)
  case atStart => exact ⟨rfl, p, t, rfl, unhide HT, unhide HN, unhide HOK, Below.refl _ _⟩
  case round =>
    clear HT HN HOK
    obtain ⟨hwe, q, u, rfl, hTu, hNu, hoku, hBw⟩ := hrel
    subst hwe
    obtain ⟨c, r, nv, rfl, hnode⟩ := hTu.top
    obtain ⟨h0, h1, h2⟩ := hnode.cells
    have hcok := hoku c (by simp)
    have HTU := hide hTu
    clear hTu hnode hoku
    by_cases hk : c.k = 1
    · have hkb : (c.k == 1) = true := by simpa using hk
      have hwf : (Lit.int .i64 c.n).wf = true := WalkArith.wf_i64 (by have := (okC1 hk).1 hcok; omega)
      have HG := hide (get_any lo P S s c.n wr hs hB hwf)
      cases hNu with
      | stop hstop =>
        have HG0 := hide (hstop hk)
        clear hk hstop
        go_wp2_with fail
        refine (unhide HG).mono ?_
        rintro e w1 ⟨hwe, hgo⟩
        subst hwe
        obtain rfl : e = .returned (.pointer none) := by
          rcases hgo with h | h
          · exact h.2
          · exact absurd (unhide HG0) h.1
        clear hgo HG
        go_wp2
        go_ret
        exact ⟨rfl, q, rfl, unhide HTU, Below.refl _ _⟩
      | @on n2 _ _ _ _ hb hN2 =>
        have HB0 := hide hb
        have HN2 := hide hN2
        have HOK2 := hide (unhide HOKT c.n)
        clear hk hb hN2
        go_wp2_with fail
        refine (unhide HG).mono ?_
        rintro e w1 ⟨hwe, hgo⟩
        subst hwe
        obtain ⟨pe, rfl, hTe⟩ : ∃ pe, e = .returned (.pointer (some ⟨pe, 0, none⟩)) ∧ TreeAt S w1 pe (getB s c.n) := by
          rcases hgo with h | ⟨_, pe, h1, h2⟩
          · exact absurd h.1 (unhide HB0)
          · exact ⟨pe, h1, h2⟩
        have HTE := hide hTe
        clear hgo HG hTe
        go_wp2
        go_roundg n2
        case measure => omega
        case rel => exact ⟨rfl, pe, _, rfl, unhide HTE, unhide HN2, unhide HOK2, Below.refl _ _⟩
    · have hkb : (c.k == 1) = false := by simpa using hk
      cases hNu with
      | on h1' => exact absurd h1' hk
      | stop hstop =>
      clear hk hstop
      go_wp2
      go_ret
      exact ⟨rfl, q, rfl, unhide HTU, Below.refl _ _⟩
end Go.Proofs.Ytonpahhcfgdeoaa

/- A tree's top and its args; one round of full, as lists. -/
namespace Go.Proofs.Ytonpahhcfgdeoaa
open Go.RowKit
set_option linter.unusedVariables false

theorem TreeAt.parts {S : Nat → Prop} {W : World} {p : Nat} {t : List C} (h : TreeAt S W p t) : ∃ (c : C) (ks : List (Nat × List C)) (ao : Option Addr) (cap : Nat), t = c :: (ks.map (·.2)).flatten ∧ S p ∧ ks.length ≤ 3 ∧ (ks.length : Int) = ari c ∧ Node W p c (.slice ao ks.length cap) ∧
    (ks = [] ∨ ∃ q, ao = some ⟨q, 0, none⟩ ∧ S q ∧ ∀ i, (h : i < ks.length) → W.cell? ⟨q, i, none⟩ = some (.pointer (some ⟨ks[i].1, 0, none⟩))) ∧ ∀ k ∈ ks, TreeAt S W k.1 k.2 := by
  obtain ⟨z, ⟨c, ks, ao, cap, rfl, hp, ⟨h3, ha⟩, hn, hr, hs⟩, rfl⟩ := h
  refine ⟨c, ks.map (fun k => (k.1, k.2.map (·.2))), ao, cap, ?_, hp, by simpa using h3, by simpa using ha, by simpa using hn, ?_, ?_⟩
  · simp [List.map_flatten, List.map_map, Function.comp_def]
  · rcases hr with rfl | ⟨q, e, hq, hr⟩
    · exact .inl rfl
    · exact .inr ⟨q, e, hq, fun i hi => by simpa using hr i (by simpa using hi)⟩
  · intro k hk
    obtain ⟨k', hk', rfl⟩ := List.mem_map.1 hk
    exact ⟨k'.2, tre_fuel (hs k' hk') (Nat.le_succ _), rfl⟩

theorem TreeAt.trm {S : Nat → Prop} {W : World} {p : Nat} {t : List C} (h : TreeAt S W p t) (hok : ∀ c ∈ t, okC c = true) : Trm t := by
  obtain ⟨z, hz, rfl⟩ := h
  exact ⟨⟨40, hz.tm⟩, hok⟩

/-- One round: the top of the stack is told, its args come in its place. -/
theorem full_step {s : List B} (hs : OkB s) {u x : List C} {us : List C} (hu : Trm u) {n : Nat} (hN : Now s n u x) {m : Nat} {rest : List C} (hE : Exp s m (u ++ us) rest) :
    ∃ c r m' rest', x = c :: r ∧ rest = c :: rest' ∧ Exp s m' (r ++ us) rest' := by
  obtain ⟨c, r, rfl, hc⟩ := hN.head
  obtain ⟨m1, m2, z1, z2, h1, h2, rfl⟩ := exp_split hE
  obtain ⟨ρ, hρ⟩ := hs.rank
  obtain ⟨k, z, hz⟩ := exp_all hρ r
  obtain ⟨m', hm'⟩ := hN.exp hs hu (Exp.keep hc hz)
  obtain ⟨rfl, _⟩ := h1.det hm'
  exact ⟨c, r, _, z ++ z2, rfl, rfl, hz.append h2⟩
end Go.Proofs.Ytonpahhcfgdeoaa

/- Towards the walk of leads: what the search knows; how often a variable was seen. -/
namespace Go.Proofs.Ytonpahhcfgdeoaa
open Go.RowKit Go.Maps
set_option linter.unusedVariables false
set_option linter.unusedSimpArgs false

/-- What the search for a variable knows: the trees that are left, those that are done, and the variables that were seen. -/
structure LdI (s : List B) (t : List C) (v : Int) (seen : List Int) (st pr : List (List C)) : Prop where
  start : t ∈ st ∨ t ∈ pr
  got : ∀ u ∈ seen, getB s u ∈ st ∨ getB s u ∈ pr
  clos : ∀ x ∈ pr, ¬ varIn x v ∧ ∀ u, varIn x u → getB s u ≠ [] → u ∈ seen
  reach : ∀ x ∈ st, ∀ u, varIn x u → Reach s t u
  bnd : ∀ u ∈ seen, getB s u ≠ []
  nd : seen.Nodup

theorem LdI.begin (s : List B) (t : List C) (v : Int) : LdI s t v [] [t] [] :=
  ⟨.inl (by simp), fun u h => by simp at h, fun x h => by simp at h, fun x hx u hu => by simp at hx; subst hx; exact .here hu, fun u h => by simp at h, .nil⟩
theorem LdI.found {s : List B} {t x : List C} {v : Int} {seen : List Int} {st pr : List (List C)} (h : LdI s t v seen (x :: st) pr) (hv : varIn x v) : Reach s t v := h.reach x (by simp) v hv
theorem LdI.new {s : List B} {t x : List C} {v u : Int} {seen : List Int} {st pr : List (List C)} (h : LdI s t v seen (x :: st) pr) (hu : varIn x u) (hb : getB s u ≠ []) (hn : u ∉ seen) : LdI s t v (u :: seen) (x :: getB s u :: st) pr := by
  have up : ∀ {z : List C}, z ∈ x :: st ∨ z ∈ pr → z ∈ x :: getB s u :: st ∨ z ∈ pr := fun hz => by
    rcases hz with hz | hz
    · rcases List.mem_cons.1 hz with rfl | hz
      · exact .inl (by simp)
      · exact .inl (by simp [hz])
    · exact .inr hz
  refine ⟨up h.start, fun y hy => ?_, fun y hy => ?_, fun y hy w hw => ?_, fun y hy => ?_, List.nodup_cons.2 ⟨hn, h.nd⟩⟩
  · rcases List.mem_cons.1 hy with rfl | hy
    · exact .inl (by simp)
    · exact up (h.got y hy)
  · obtain ⟨h1, h2⟩ := h.clos y hy
    exact ⟨h1, fun w hw hb => List.mem_cons_of_mem _ (h2 w hw hb)⟩
  · rcases List.mem_cons.1 hy with rfl | hy
    · exact h.reach _ (by simp) w hw
    · rcases List.mem_cons.1 hy with rfl | hy
      · exact .step (h.reach x (by simp) u hu) hw
      · exact h.reach y (by simp [hy]) w hw
  · rcases List.mem_cons.1 hy with rfl | hy
    · exact hb
    · exact h.bnd y hy
theorem LdI.finish {s : List B} {t x : List C} {v : Int} {seen : List Int} {st pr : List (List C)} (h : LdI s t v seen (x :: st) pr) (hv : ¬ varIn x v) (ha : ∀ u, varIn x u → getB s u ≠ [] → u ∈ seen) : LdI s t v seen st (x :: pr) := by
  have up : ∀ {z : List C}, z ∈ x :: st ∨ z ∈ pr → z ∈ st ∨ z ∈ x :: pr := fun hz => by
    rcases hz with hz | hz
    · rcases List.mem_cons.1 hz with rfl | hz
      · exact .inr (by simp)
      · exact .inl hz
    · exact .inr (by simp [hz])
  refine ⟨up h.start, fun y hy => up (h.got y hy), fun y hy => ?_, fun y hy => h.reach y (by simp [hy]), h.bnd, h.nd⟩
  rcases List.mem_cons.1 hy with rfl | hy
  · exact ⟨hv, ha⟩
  · exact h.clos y hy
theorem LdI.done {s : List B} {t : List C} {v : Int} {seen : List Int} {pr : List (List C)} (h : LdI s t v seen [] pr) : ¬ Reach s t v := by
  have key : ∀ u, Reach s t u → ∃ x ∈ pr, varIn x u := by
    intro u hu
    induction hu with
    | here h1 => exact ⟨t, h.start.resolve_left (by simp), h1⟩
    | @step u' v' _ h2 ih =>
      obtain ⟨x, hx, hu'⟩ := ih
      have hs := (h.clos x hx).2 u' hu' (ne_of_varIn h2)
      exact ⟨_, (h.got u' hs).resolve_left (by simp), h2⟩
  intro hr
  obtain ⟨x, hx, hv⟩ := key v hr
  exact (h.clos x hx).1 hv
theorem LdI.len {s : List B} {t : List C} {v : Int} {seen : List Int} {st pr : List (List C)} (h : LdI s t v seen st pr) : seen.length ≤ s.length := by
  have := nodup_len h.nd (V := s.map (·.v)) (fun u hu => by obtain ⟨x, hx, e, _⟩ := getB_mem (h.bnd u hu); exact List.mem_map.2 ⟨x, hx, e⟩)
  simpa using this

/-- The map tells which variables were seen; no number is above N. -/
def TabC (seen : List Int) (N : Nat) (D : DataW Unit) : Prop := Maps.IsMap D ∧ ∀ x : Int, ∃ c : Nat, D.atKey (.int .i64 x) (.lit (.int .i64 0)) = .lit (.int .i64 (c : Int)) ∧ (c = 0 ↔ x ∉ seen) ∧ c ≤ N
theorem tabC_nil : TabC [] 0 (.map [] : DataW Unit) := ⟨Maps.isMap_empty, fun x => ⟨0, rfl, by simp, Nat.le_refl _⟩⟩
theorem tabC_put {seen : List Int} {N c : Nat} {D : DataW Unit} {u : Int} (h : TabC seen N D) (hc : D.atKey (.int .i64 u) (.lit (.int .i64 0)) = .lit (.int .i64 (c : Int))) (hN : c ≤ N) (seen' : List Int) (hs : ∀ x, x ∈ seen' ↔ x = u ∨ x ∈ seen) : TabC seen' (N + 1) (D.put (.int .i64 u) (.lit (.int .i64 ((c + 1 : Nat) : Int)))) := by
  refine ⟨h.1.put _ _, fun x => ?_⟩
  by_cases e : x = u
  · subst e
    exact ⟨c + 1, Maps.atKey_put_same h.1 (show WideAt.IsKeyLit (Lit.int .i64 x) from trivial) _ _, by simp [hs], by omega⟩
  · obtain ⟨d, h1, h2, h3⟩ := h.2 x
    refine ⟨d, by rw [Maps.atKey_put_other (by intro h'; apply e; simpa using h'), h1], ?_, by omega⟩
    rw [h2, hs]
    simp [e]
theorem tabC_at_put {N : Nat} {D : DataW Unit} {u : Int} {z : Int} (h : Maps.IsMap D) : (D.put (.int .i64 u) (.lit (.int .i64 z))).atKey (.int .i64 u) (.lit (.int .i64 0)) = .lit (.int .i64 z) := Maps.atKey_put_same h (show WideAt.IsKeyLit (Lit.int .i64 u) from trivial) _ _

/-- Two places are one. -/
theorem eql_cell (c d : C) (w : World) : (binOp .eql 67 (.agg #[.int .i64 c.k, .int .i64 c.n, .string c.s]) (.agg #[.int .i64 d.k, .int .i64 d.n, .string d.s])).run Try.prog w = .ok (.bool (same c d)) w := by
  rw [run_eql_struct, run_equalIn_agg w 9999 67 _ _ Try.fieldsCell Try.heldCell]
  by_cases h1 : c.k = d.k
  · by_cases h2 : c.n = d.n
    · simp [Program.fieldsOf, Try.underlying67, Op.eqFields, go_sem, same, h1, h2, ByteArray.toList_eq]
      by_cases h3 : c.s.data = d.s.data
      · simp [h3]
      · simp [h3]
    · simp [Program.fieldsOf, Try.underlying67, Op.eqFields, go_sem, same, h1, h2]
  · simp [Program.fieldsOf, Try.underlying67, Op.eqFields, go_sem, same, h1]
end Go.Proofs.Ytonpahhcfgdeoaa
