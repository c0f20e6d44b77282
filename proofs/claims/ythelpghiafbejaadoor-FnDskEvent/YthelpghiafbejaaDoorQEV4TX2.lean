import Derived.Test.YthelpghiafbejaaDoorQEV1
import Derived.Deep.CutRange
import Derived.WalkMore
import Derived.Test.YthelpghiafbejaaDoorQTX1TX4TXS
import Derived.Test.YthelpghiafbejaaDoorQW10W13
/- The program cuts a line. -/
namespace Go.Proofs.YthelpghiafbejaaDoor
open Go.RowKit
set_option linter.unusedVariables false
set_option linter.unusedSimpArgs false
attribute [-go_sem] Go.Builtin.append_

set_option maxRecDepth 100000 in
set_option maxHeartbeats 4000000 in
theorem cutLine_any (l : List UInt8) (hl : l.length ≤ 1000) (w : World) :
    Calls Tryd.prog 14 #[.string (mkS l)] w fun e w' => ∃ v, e = .returned v ∧ OwnS w' w.heap.size v (cutW l) ∧ Below w.heap.size w w' := by
  go_enter Tryd.func14, Tryd.ntmps14
  go_wp2
  go_step3
  go_wp2
  go_step3
  go_wp2
  go_loopw [0, 3] (fun lv wv wr => ∃ (r : List UInt8) (out : List (List UInt8)), lv = .string (mkS r) ∧ OwnS wr w.heap.size wv out ∧ out ++ cutW r = cutW l ∧ r.length + out.length ≤ l.length ∧ Below w.heap.size w wr) (fun lv _ _ => match lv with | .string s => s.size | _ => 0)
  case atStart => exact ⟨l, [], rfl, ⟨rfl, .inl ⟨rfl, rfl⟩⟩, rfl, by simp, Below.refl _ _⟩
  case round =>
    obtain ⟨r, out, rfl, hO, hm, hsz, hB⟩ := hrel
    have hs := mkS_size r
    generalize wr = wm at *
    go_wp2
    go_loopw [0, 3, 7] (fun lv wv kv wr => ∃ (k : Nat), lv = .string (mkS r) ∧ OwnS wr w.heap.size wv out ∧ kv = .int .i64 k ∧ k ≤ r.length ∧ (∀ b ∈ r.take k, b ≠ 32) ∧ wr = wm) (fun _ _ kv _ => r.length - (intOf kv).toNat)
    case atStart => exact ⟨0, rfl, hO, rfl, Nat.zero_le _, by simp, rfl⟩
    case round =>
      clear hO
      obtain ⟨k, rfl, hO, rfl, hk, hno, hwr⟩ := hrel
      subst hwr
      have HNO := hide hno
      clear hno
      have HO := hide (And.intro hO hB)
      by_cases hlt : k < r.length
      · have hget : (mkS r).data[k]? = some r[k] := by simp [mkS, hlt]
        have hget2 : (mkS r)[k]'(by rw [hs]; exact hlt) = r[k] := by
          show (mkS r).data[k]'_ = _
          simp [mkS]
        have hd : r = r.take k ++ r[k] :: r.drop (k + 1) := by rw [← List.drop_eq_getElem_cons hlt, List.take_append_drop]
        have HT := hide (show r.take (k + 1) = r.take k ++ [r[k]] from List.take_succ_eq_append_getElem hlt)
        obtain ⟨c, hc⟩ : ∃ c, c = r[k] := ⟨_, rfl⟩
        rw [← hc] at hget hget2 hd HT
        clear hc
        by_cases hb : c = 32
        · subst hb
          have hcut : cutW r = r.take k :: cutW (r.drop (k + 1)) := by
            conv => lhs; rw [hd]
            exact cutW_first (unhide HNO) _
          have HM := hide (show (out ++ [r.take k]) ++ cutW (r.drop (k + 1)) = cutW l from by rw [← hm, hcut]; simp)
          have hx1 : (mkS r).extract 0 k = mkS (r.take k) := mkS_take r k
          have hx2 : (mkS r).extract (k + 1) r.length = mkS (r.drop (k + 1)) := mkS_drop r (k + 1)
          have p1 : (0 : Int) ≤ (k : Int) := by omega
          have p2 : (k : Int) ≤ (r.length : Int) := by omega
          have p3 : (0 : Int) ≤ (k : Int) + 1 := by omega
          have p4 : (k : Int) + 1 ≤ (r.length : Int) := by omega
          obtain ⟨v', w3, hr, hO3, hb3⟩ := app_oneS wr w.heap.size _ out (r.take k) hO hB.size (by omega)
          have HO := hide (And.intro hO3 (hB.trans hb3))
          have HL := hide (show (r.drop (k + 1)).length + (out ++ [r.take k]).length ≤ l.length from by rw [List.length_drop, List.length_append]; simp; omega)
          have HSZ := hide (show (mkS (r.drop (k + 1))).size < (mkS r).size from by rw [mkS_size, mkS_size, List.length_drop]; omega)
          clear hO hB hm hd hcut HT HNO hO3 hb3
          go_wp2
          exact ⟨⟨r.drop (k + 1), out ++ [r.take k], rfl, (unhide HO).1, unhide HM, unhide HL, (unhide HO).2⟩, unhide HSZ⟩
        · have hcb : ¬ ((c.toNat : Int) = 32) := fun e => hb (byte_blank.1 e)
          have HN := hide (fun (b : UInt8) (h : b ∈ r.take (k + 1)) => show b ≠ 32 from by
            rw [unhide HT] at h
            rcases List.mem_append.1 h with h | h
            · exact unhide HNO b h
            · simp at h; subst h; exact hb)
          clear hO hB hm hd HT HNO hb
          go_wp2
          go_roundw
          case rel => exact ⟨k + 1, rfl, (unhide HO).1, by go_num, by omega, unhide HN, by first | rfl | trivial⟩
          case measure => simp [intOf]; omega
      · have hke : k = r.length := by omega
        have hcut : cutW r = [r] := cutW_word (fun b hb => unhide HNO b (by rw [hke, List.take_length]; exact hb))
        have HM := hide (show out ++ [r] = cutW l from by rw [← hm, hcut])
        obtain ⟨v', w3, hr, hO3, hb3⟩ := app_oneS wr w.heap.size _ out r hO hB.size (by omega)
        have HO := hide (And.intro hO3 (hB.trans hb3))
        clear hO hB hm hcut HNO hO3 hb3
        go_wp2
        rw [Exit.noGoto_ret]
        go_ret
        exact ⟨v', rfl, by rw [← unhide HM]; exact (unhide HO).1, (unhide HO).2⟩
end Go.Proofs.YthelpghiafbejaaDoor

/- The specification: decimals, words. -/
namespace Go.Proofs.YthelpghiafbejaaDoor
open Go.RowKit
set_option linter.unusedVariables false
set_option linter.unusedSimpArgs false

set_option maxRecDepth 100000 in
set_option maxHeartbeats 1000000 in
theorem l1Plain_any (n : Nat) (w : World) (hn : n < 100000) :
    Calls Tryd.prog 25 #[.int .i64 n] w fun e w' => e = .returned (.string (decB n)) ∧ Below w.heap.size w w' := by
  go_enter Tryd.func25, Tryd.ntmps25
  go_wp2
  go_loopw [0, 3] (fun nv ov wr => ∃ (m : Nat) (acc : ByteArray), nv = .int .i64 m ∧ ov = .string acc ∧ decB n = decB m ++ acc ∧ m ≤ n ∧ Below w.heap.size w wr) (fun nv _ _ => (intOf nv).toNat)
  case atStart => exact ⟨n, ByteArray.empty, rfl, rfl, by simp, Nat.le_refl _, Below.refl _ _⟩
  case round =>
    obtain ⟨m, acc, rfl, rfl, hd, hm, hB⟩ := hrel
    by_cases h9 : 9 < m
    · have HB := hide (bstep hB (cell_below wr (.cells #[.int .u8 (48 + (m : Int) % 10)] 5)))
      have HD := hide (show decB n = decB (m / 10) ++ (⟨#[UInt8.ofNat (48 + m % 10)]⟩ ++ acc) from by rw [hd, decB_step (by omega), ByteArray.append_assoc])
      have hc := conv1 wr (48 + (m : Int) % 10)
      rw [show (48 + (m : Int) % 10).toNat = 48 + m % 10 by omega] at hc
      have hsz := congrArg ByteArray.size hd
      rw [ByteArray.size_append] at hsz
      have hd5 := decB_size 4 n (by rw [show 10 ^ (4 + 1) = 100000 from rfl]; omega)
      obtain ⟨d, hdd⟩ : ∃ d : ByteArray, d = ⟨#[UInt8.ofNat (48 + m % 10)]⟩ := ⟨_, rfl⟩
      have hd1 : d.size = 1 := by rw [hdd]; rfl
      have hcat : ¬ (d.size + acc.size > 9223372036854775807) := by omega
      rw [← hdd] at hc HD
      clear hd hB hsz hd5 hdd hd1
      go_wp2
      go_roundw
      case rel => exact ⟨m / 10, d ++ acc, by go_num, rfl, unhide HD, by omega, unhide HB⟩
      case measure => simp [intOf]; omega
    · have HB := hide (bstep hB (cell_below wr (.cells #[.int .u8 (48 + (m : Int))] 5)))
      have HD := hide (show decB n = ⟨#[UInt8.ofNat (48 + m)]⟩ ++ acc from by rw [hd, decB_small (by omega)])
      have hc := conv1 wr (48 + (m : Int))
      rw [show (48 + (m : Int)).toNat = 48 + m by omega] at hc
      have hm9 : (m : Int) ≤ 9 := by omega
      have hsz := congrArg ByteArray.size hd
      rw [ByteArray.size_append] at hsz
      have hd5 := decB_size 4 n (by rw [show 10 ^ (4 + 1) = 100000 from rfl]; omega)
      obtain ⟨d, hdd⟩ : ∃ d : ByteArray, d = ⟨#[UInt8.ofNat (48 + m)]⟩ := ⟨_, rfl⟩
      have hd1 : d.size = 1 := by rw [hdd]; rfl
      have hcat : ¬ (d.size + acc.size > 9223372036854775807) := by omega
      rw [← hdd] at hc HD
      clear hd hB hsz hd5 hdd hd1
      go_wp2
      go_ret
      exact ⟨by rw [unhide HD]; rfl, unhide HB⟩

end Go.Proofs.YthelpghiafbejaaDoor
