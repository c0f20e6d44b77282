/- appendNumber of the program, l6Put of the specification. -/
import Derived.Test.YtpfcjdabfmelaaaDoorQYB1
import Derived.Deep.RegionHeld3
namespace Go.Proofs.YtpfcjdabfmelaaaDoor
open Go.RowKit
set_option linter.unusedVariables false
set_option linter.unusedSimpArgs false
attribute [-go_sem] Go.Builtin.append_

/-- The run of an append of bytes that lie somewhere. -/
theorem app_row (w : World) (base : Nat) (v : Value) (z y : List Int) (b off cap : Nat) (hO : OwnY w base v z) (hb : base ≤ w.heap.size) (hz : z.length + y.length ≤ 4194304) (hA : AtY w b off y) (h0 : 0 < y.length) :
    ∃ v' w', (Builtin.append_ #[22, 22] 22 #[v, .slice (some ⟨b, off, none⟩) y.length cap]).run Tryd.prog w = .ok v' w' ∧ OwnY w' base v' (z ++ y) ∧ Grew w v w' v' := by
  obtain ⟨i0, hi, hz0, hz1, hz2⟩ := info_parts Tryd.infoByte
  obtain ⟨g, c, w1, hr, ho, hg, hat, _⟩ := run_append_lies (P := Tryd.prog) w 22 22 base 5 i0 _ 1 1 Tryd.underlying22 hi hz0 hz1 hz2 rfl (by decide) v z.length _ hO ⟨b, off, none⟩ y.length cap (bys y) (by simp [bys]) (fun j u hj => by
    have hjl : j < y.length := by
      have := (List.getElem?_eq_some_iff.1 hj).1
      simpa [bys] using this
    rw [bys_get y j hjl] at hj
    have e : (⟨b, off, none⟩ : Addr).add j = ⟨b, off + j, none⟩ := by unfold Addr.add; split <;> simp_all
    rw [e, hA j hjl]
    exact hj) (bys_one y) h0 (by unfold maxLen; omega) (by omega) hb _ rfl
  refine ⟨_, _, hr, ?_, hg, ?_⟩
  · unfold OwnY
    rw [List.length_append, bys_app]
    exact ho
  · intro k hk
    have e : g = k := by simpa [Value.ownBlock] using hk
    subst e
    rcases hat with h | h
    · exact .inl h
    · right; omega

theorem atY_new (w : World) (y : List Int) : AtY (w.alloc (.cells (bys y).toArray 5)) w.heap.size 0 y := fun i hi => by
  have hb := heap_alloc_new w (.cells (bys y).toArray 5)
  simp only [World.cell?, hb]
  simpa using bys_get y i hi

/-- The run of an append of new bytes. -/
theorem app_new (w : World) (base : Nat) (v : Value) (z y : List Int) (cs : Array Value) (hcs : cs = (bys y).toArray) (n : Nat) (hn : n = y.length) (hO : OwnY w base v z) (hb : base ≤ w.heap.size) (hz : z.length + y.length ≤ 4194304) (h0 : 0 < y.length) :
    ∃ v' w', (Builtin.append_ #[22, 22] 22 #[v, .slice (some ⟨w.heap.size, 0, none⟩) n n]).run Tryd.prog (w.alloc (.cells cs 5)) = .ok v' w' ∧ OwnY w' base v' (z ++ y) ∧ Grew w v w' v' := by
  subst hcs hn
  obtain ⟨v', w', hr, ho, hg⟩ := app_row (w.alloc (.cells (bys y).toArray 5)) base v z y w.heap.size 0 y.length (hO.below (cell_below _ _)) (by simp; omega) hz (atY_new w y) h0
  refine ⟨v', w', hr, ho, grown_trans (grown_below (cell_below _ _)) hg.1, fun k hk => ?_⟩
  rcases hg.2 k hk with h | h
  · exact .inl h
  · right; simp at h; omega

def num3 (n : Int) : List Int := highs (n + 100000) 3
theorem num3_eq (n : Int) : num3 n = [(n + 100000) / 65536 % 256, (n + 100000) / 256 % 256, (n + 100000) % 256] := by
  simp [num3, highs, List.range_succ, hiB]

set_option maxRecDepth 100000 in
set_option maxHeartbeats 1000000 in
theorem appendNumber_any (base : Nat) (v : Value) (z : List Int) (n : Int) (w : World) (hO : OwnY w base v z) (hb : base ≤ w.heap.size) (hz : z.length ≤ 2097152) (h0 : -100000 ≤ n) (h1 : n ≤ 100000000) :
    Calls Tryd.prog 33 #[v, .int .i64 n] w fun e w' => ∃ v', e = .returned v' ∧ OwnY w' base v' (z ++ num3 n) ∧ Grew w v w' v' := by
  have H := hide (appendHigh_any base v z (n + 100000) 3 w hO hb hz (by omega) (by omega) (by omega))
  go_enter Tryd.func33, Tryd.ntmps33
  go_wp2_with fail
  refine (unhide H).mono ?_
  rintro e w1 ⟨v', rfl, ho, hg⟩
  go_wp2
  go_ret
  exact ⟨v', rfl, ho, hg⟩

theorem made_noneY (w : World) (base : Nat) (hb : base ≤ w.heap.size) : OwnY (w.alloc (.cells #[] 5)) base (.slice (some ⟨w.heap.size, 0, none⟩) 0 0) [] := World.ownsRow_made w #[] 0 hb (by simp [maxLen]) rfl

end Go.Proofs.YtpfcjdabfmelaaaDoor
