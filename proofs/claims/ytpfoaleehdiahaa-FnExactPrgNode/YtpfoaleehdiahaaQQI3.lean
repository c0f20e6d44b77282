/- Where a name is called: the program's node, the specification's l3Node. -/
import Derived.Test.YtpfoaleehdiahaaQQI2
namespace Go.Proofs.Ytpfoaleehdiahaa
open Go.RowKit Go.Shelf
set_option linter.unusedVariables false
set_option linter.unusedSimpArgs false

/-- Where a name with so many arguments is called. -/
def nodeP : List Pc → ByteArray → Int → Int
  | [], _, _ => 0
  | y :: r, s, n => if y.s = s ∧ y.n = n then y.d else nodeP r s n
theorem nodeP_hit {ps : List Pc} {s : ByteArray} {n : Int} {k : Nat} (hk : k < ps.length) (h1 : ps[k].s = s) (h2 : ps[k].n = n) : nodeP (ps.drop k) s n = ps[k].d := by
  rw [List.drop_eq_getElem_cons hk, nodeP, if_pos ⟨h1, h2⟩]
theorem nodeP_miss {ps : List Pc} {s : ByteArray} {n : Int} {k : Nat} (hk : k < ps.length) (h : ¬ (ps[k].s = s ∧ ps[k].n = n)) : nodeP (ps.drop k) s n = nodeP (ps.drop (k + 1)) s n := by
  rw [List.drop_eq_getElem_cons hk, nodeP, if_neg h]

set_option maxRecDepth 100000 in
set_option maxHeartbeats 2000000 in
theorem node_any (P : Nat) (ao : Option Addr) (cap : Nat) (ps : List Pc) (s : ByteArray) (n : Int) (w : World) (hl : ps.length ≤ 1048576) (hc : w.cell? ⟨P, 1, none⟩ = some (.slice ao ps.length cap)) (hA : RowP w ao ps) :
    Calls Try.prog 106 #[.pointer (some ⟨P, 0, none⟩), .string s, .int .i64 n] w fun e w' => e = .returned (.int .i64 (nodeP ps s n)) ∧ Below w.heap.size w w' := by
  have HA := hide (fun (W : World) (hW : Below w.heap.size w W) => hA.below hW)
  clear hA
  go_enter Try.func106, Try.ntmps106
  go_wp2
  go_loopw [14] (fun i wr => ∃ (k : Nat), k ≤ ps.length ∧ i = .int .i64 k ∧ nodeP ps s n = nodeP (ps.drop k) s n ∧ Below w.heap.size w wr) (fun i _ => ps.length - (intOf i).toNat)
  case atStart => exact ⟨0, Nat.zero_le _, rfl, rfl, Below.refl _ _⟩
  case round =>
    obtain ⟨k, hk, rfl, hn, hBr⟩ := hrel
    have HN := hide hn
    clear hn
    by_cases hlt : k < ps.length
    · rcases unhide HA wr hBr with e | ⟨b, off, e, hA⟩
      · rw [e] at hlt; simp at hlt
      subst e
      obtain ⟨v0, v1, v2, g0, g1, g2, hv⟩ := hA k hlt
      obtain ⟨q0, q1, q2⟩ := hv
      subst q0 q1 q2
      have HH := hide (nodeP_hit (s := s) (n := n) hlt)
      have HM := hide (nodeP_miss (s := s) (n := n) hlt)
      obtain ⟨y, hy⟩ : ∃ y, y = ps[k] := ⟨_, rfl⟩
      rw [← hy] at g0 g1 g2 HH HM
      clear hy hA
      have hbl := cell_below wr (.cells #[.string y.s, .int .i64 y.n, .int .i64 y.d] 143)
      by_cases hs : y.s = s
      · by_cases hnn : y.n = n
        · have HV := hide ((unhide HN).trans (unhide HH hs hnn))
          subst hs hnn
          clear HN HH HM
          go_wp2
          go_ret
          exact ⟨by rw [unhide HV]; rfl, bstep hBr hbl⟩
        · have HV := hide ((unhide HN).trans (unhide HM (fun h => hnn h.2)))
          have hnb : (y.n == n) = false := by simpa using hnn
          subst hs
          clear HN HH HM hnn
          go_wp2
          go_roundw
          case rel => exact ⟨k + 1, by omega, by go_num, unhide HV, bstep hBr hbl⟩
          case measure => simp [intOf]; omega
      · have HV := hide ((unhide HN).trans (unhide HM (fun h => hs h.1)))
        have hbq : (y.s.toList == s.toList) = false := by rw [ByteArray.toList_eq, ByteArray.toList_eq]; simp only [beq_eq_false_iff_ne]; exact fun h => hs (bytes_ext h)
        clear HN HH HM hs
        go_wp2
        go_roundw
        case rel => exact ⟨k + 1, by omega, by go_num, unhide HV, bstep hBr hbl⟩
        case measure => simp [intOf]; omega
    · have e : k = ps.length := by omega
      subst e
      have HV : Hid (nodeP ps s n = 0) := by show _ = _; rw [unhide HN, List.drop_length]; rfl
      clear HN
      go_wp2
      go_ret
      exact ⟨by rw [unhide HV]; rfl, hBr⟩
end Go.Proofs.Ytpfoaleehdiahaa
