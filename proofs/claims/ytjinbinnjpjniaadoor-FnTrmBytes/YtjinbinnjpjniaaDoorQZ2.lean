/- The reader of bytes: numbers. -/
import Derived.Test.YtjinbinnjpjniaaDoorQZ1
import Derived.Laws.BitsLemmas
namespace Go.Proofs.YtjinbinnjpjniaaDoor
open Go.RowKit
set_option linter.unusedVariables false
set_option linter.unusedSimpArgs false

theorem or_join {s x : Int} (h0 : 0 ≤ s) (h1 : s < 65536) (h2 : 0 ≤ x) (h3 : x < 256) : bits .or .i64 (s * 256) x = s * 256 + x :=
  bits_join .i64 63 (by decide) (fun n h₀ h₁ => by rw [IntKind.wrap_i64]; omega) 8 (s * 256) x (by omega) (by omega) (by omega) h2 (by omega) (by omega)
/-- A number of bytes, the highest first. -/
def hiL (z : List Int) : Int := z.foldl (fun n x => n * 256 + x) 0
theorem hiL_step {z : List Int} {k : Nat} (h : k < z.length) : hiL (z.take (k + 1)) = hiL (z.take k) * 256 + z[k] := by
  unfold hiL
  rw [List.take_succ_eq_append_getElem h, List.foldl_append]
  rfl
theorem hiL_in {z : List Int} (hy : ByL z) : ∀ k, k ≤ z.length → k ≤ 3 → 0 ≤ hiL (z.take k) ∧ hiL (z.take k) < 256 ^ k
  | 0, _, _ => by simp [hiL]
  | k + 1, h, h3 => by
      have ih := hiL_in hy k (by omega) (by omega)
      have hx := hy.get k (by omega)
      rw [hiL_step (by omega)]
      rcases (show k = 0 ∨ k = 1 ∨ k = 2 by omega) with rfl | rfl | rfl <;> simp at ih ⊢ <;> omega
theorem tkZ_by {er : Bool} {y : List Int} {p n : Nat} (h : ByL y) : ByL (tkZ er y p n) := by
  unfold tkZ
  split
  · exact ByL.nil
  · exact (h.drop p).take n
theorem tkZ_len (er : Bool) (y : List Int) (p n : Nat) : (tkZ er y p n).length ≤ n := by
  unfold tkZ
  split
  · simp
  · simp; omega
theorem tkZ_place (er : Bool) (y : List Int) (p n : Nat) (hp : p ≤ y.length) : p + (tkZ er y p n).length ≤ y.length := by
  unfold tkZ
  split
  · simpa using hp
  · simp; omega

def Highed (w : World) (R : Nat) (ao : Option Addr) (cap : Nat) (y : List Int) (p : Nat) (er : Bool) (n : Nat) (d : Int) (e : Ending) (w' : World) : Prop :=
  e = .returned (.int .i64 (hiL (tkZ er y p n) - d)) ∧ Rdr w' R ao cap y (p + (tkZ er y p n).length) (tkE er y p n) ∧ w.grownBy w' (some R)

set_option maxRecDepth 100000 in
set_option maxHeartbeats 2000000 in
theorem high_any (ao : Option Addr) (R b off cap : Nat) (y : List Int) (p : Nat) (er : Bool) (n : Nat) (w : World) (h : Rdr w R ao cap y p er) (hao : y = [] ∨ ao = some ⟨b, off, none⟩) (hA : AtY w b off y) (hy : ByL y) (hbR : b ≠ R) (hG : Gl w) (hp : p ≤ y.length) (hl : y.length ≤ 1048576) (hn : n ≤ 3) (hn1 : 1 ≤ n) (hc : y.length ≤ cap) :
    Calls Tryd.prog 69 #[.pointer (some ⟨R, 0, none⟩), .int .i64 n] w (Highed w R ao cap y p er n 0) := by
  have HT := hide (take_any ao R b off cap y p er n w h hao (.inr (.inl (by omega))) hA hbR hG hp hl (by omega) hc)
  go_enter Tryd.func69, Tryd.ntmps69
  go_wp2_with fail
  refine (unhide HT).mono ?_
  rintro e w1 ⟨ao', cap', rfl, hr, h1, hg⟩
  have HH := hide (And.intro h1 hg)
  have hzl := tkZ_len er y p n
  have hzy := tkZ_by (er := er) (p := p) (n := n) hy
  obtain ⟨z, hz⟩ : ∃ z, z = tkZ er y p n := ⟨_, rfl⟩
  rw [← hz] at hr hzl hzy ⊢
  have HZ := hide hz
  clear hz h1 hg hA h hG hy hao
  go_wp2
  go_loop [5, 12] (fun m i => ∃ (j : Nat), j ≤ z.length ∧ i = .int .i64 j ∧ m = .int .i64 (hiL (z.take j))) (fun _ i => z.length - (intOf i).toNat)
  case atStart => exact ⟨0, Nat.zero_le _, rfl, rfl⟩
  case round =>
    obtain ⟨j, hj, rfl, rfl⟩ := hrel
    by_cases hlt : j < z.length
    · rcases hr with rfl | ⟨b', off', rfl, hA⟩
      · simp at hlt
      have d0 := hA j hlt
      have hy0 := hzy.get j hlt
      have hs := hiL_in hzy j hj (by omega)
      have hs2 : hiL (z.take j) < 65536 := by
        rcases (show j = 0 ∨ j = 1 ∨ j = 2 by omega) with rfl | rfl | rfl <;> simp at hs ⊢ <;> omega
      replace hs := hs.1
      have HS := hide (hiL_step hlt)
      obtain ⟨x, hx⟩ : ∃ x, x = z[j] := ⟨_, rfl⟩
      rw [← hx] at d0 hy0 HS
      clear hx
      obtain ⟨s, hs'⟩ : ∃ s, s = hiL (z.take j) := ⟨_, rfl⟩
      rw [← hs'] at hs hs2 HS ⊢
      clear hs'
      go_wp2
      go_round
      case rel => exact ⟨j + 1, by omega, by go_num, by rw [unhide HS, or_join (by omega) (by omega) hy0.1 (by omega)]⟩
      case measure => simp [intOf]; omega
    · go_wp2
      go_ret
      refine ⟨ret_int ?_, ?_⟩
      · rw [List.take_of_length_le (by omega), unhide HZ]; omega
      · exact unhide HH

set_option maxRecDepth 100000 in
set_option maxHeartbeats 1000000 in
theorem one_any (ao : Option Addr) (R b off cap : Nat) (y : List Int) (p : Nat) (er : Bool) (w : World) (h : Rdr w R ao cap y p er) (hao : y = [] ∨ ao = some ⟨b, off, none⟩) (hA : AtY w b off y) (hy : ByL y) (hbR : b ≠ R) (hG : Gl w) (hp : p ≤ y.length) (hl : y.length ≤ 1048576) (hc : y.length ≤ cap) :
    Calls Tryd.prog 58 #[.pointer (some ⟨R, 0, none⟩)] w (Highed w R ao cap y p er 1 0) := by
  have HT := hide (high_any ao R b off cap y p er 1 w h hao hA hy hbR hG hp hl (by omega) (by omega) hc)
  go_enter Tryd.func58, Tryd.ntmps58
  go_wp2_with fail
  refine (unhide HT).mono ?_
  rintro e w1 ⟨rfl, h1, hg⟩
  have HH := hide (And.intro h1 hg)
  clear h1 hg h hA hy hG hao
  go_wp2
  go_ret
  exact ⟨ret_int (by omega), unhide HH⟩

set_option maxRecDepth 100000 in
set_option maxHeartbeats 1000000 in
theorem number_any (ao : Option Addr) (R b off cap : Nat) (y : List Int) (p : Nat) (er : Bool) (w : World) (h : Rdr w R ao cap y p er) (hao : y = [] ∨ ao = some ⟨b, off, none⟩) (hA : AtY w b off y) (hy : ByL y) (hbR : b ≠ R) (hG : Gl w) (hp : p ≤ y.length) (hl : y.length ≤ 1048576) (hc : y.length ≤ cap) :
    Calls Tryd.prog 70 #[.pointer (some ⟨R, 0, none⟩)] w (Highed w R ao cap y p er 3 100000) := by
  have HT := hide (high_any ao R b off cap y p er 3 w h hao hA hy hbR hG hp hl (by omega) (by omega) hc)
  have hs : 0 ≤ hiL (tkZ er y p 3) - 0 ∧ hiL (tkZ er y p 3) - 0 < 16777216 := by
    have hl3 := tkZ_len er y p 3
    have := hiL_in (tkZ_by (er := er) (p := p) (n := 3) hy) _ (Nat.le_refl _) hl3
    rw [List.take_length] at this
    generalize (tkZ er y p 3).length = m at this hl3
    rcases (show m = 0 ∨ m = 1 ∨ m = 2 ∨ m = 3 by omega) with rfl | rfl | rfl | rfl <;> simp at this ⊢ <;> omega
  go_enter Tryd.func70, Tryd.ntmps70
  go_wp2_with fail
  refine (unhide HT).mono ?_
  rintro e w1 ⟨rfl, h1, hg⟩
  have HH := hide (And.intro h1 hg)
  clear h1 hg h hA hy hG hao
  obtain ⟨s, hs'⟩ : ∃ s, s = hiL (tkZ er y p 3) - 0 := ⟨_, rfl⟩
  rw [← hs'] at hs ⊢
  have HS := hide hs'
  clear hs'
  go_wp2
  go_ret
  exact ⟨ret_int (by rw [unhide HS]; omega), unhide HH⟩
end Go.Proofs.YtjinbinnjpjniaaDoor
