import Derived.Test.YtkedckmpjedjoaaQOpen2D1D2D3D4D5D6PX1YMYW1TXSTXRYB1YB2YB3RR5
import Derived.Lib.ItoaNum
import Derived.Test.YtkedckmpjedjoaaQW10W13
import Derived.Shelf.Strings.Builder1
import Derived.Test.YtkedckmpjedjoaaQW11W12
/- The words of a term's places: decimals, without memory. -/
namespace Go.Proofs.Ytkedckmpjedjoaa
set_option linter.unusedVariables false
set_option linter.unusedSimpArgs false

theorem ba_ext {a b : ByteArray} (h : a.data = b.data) : a = b := by cases a; cases b; simp_all
theorem ba_mk (a b : Array UInt8) : (⟨a⟩ : ByteArray) ++ ⟨b⟩ = ⟨a ++ b⟩ := ba_ext (by simp [ByteArray.data_append])
/-- Decimals. -/
def decB (n : Nat) : ByteArray := ⟨(Go.Lib.decDigits n).toArray⟩
def numB (n : Int) : ByteArray := ⟨(Go.Lib.itoa n).toArray⟩
def xB : ByteArray := ⟨#[88]⟩
def mnB : ByteArray := ⟨#[45]⟩
/-- The word of a place, but for its arguments. -/
def wordB (c : C) : ByteArray := if c.k = 1 then xB ++ numB c.n else if c.k = 2 then numB c.n else c.s
theorem numB_pos {n : Int} (h : 0 ≤ n) : numB n = decB n.toNat := by
  unfold numB decB Go.Lib.itoa
  rw [if_neg (by omega)]
theorem numB_neg {n : Int} (h : n < 0) : numB n = mnB ++ decB (-n).toNat := by
  unfold numB decB Go.Lib.itoa mnB
  rw [if_pos h, ba_mk]
  refine ba_ext ?_
  rw [show n.natAbs = (-n).toNat by omega]
  simp
theorem decB_small {n : Nat} (h : n < 10) : decB n = ⟨#[UInt8.ofNat (48 + n)]⟩ := by
  unfold decB
  rw [Go.Lib.decDigits, dif_pos h]
theorem decB_step {n : Nat} (h : ¬ n < 10) : decB n = decB (n / 10) ++ ⟨#[UInt8.ofNat (48 + n % 10)]⟩ := by
  unfold decB
  rw [Go.Lib.decDigits, dif_neg h, ba_mk]
  refine ba_ext ?_
  simp
theorem one_size (x : UInt8) : (⟨#[x]⟩ : ByteArray).size = 1 := rfl
theorem decB_size : ∀ (k n : Nat), n < 10 ^ (k + 1) → (decB n).size ≤ k + 1
  | 0, n, h => by
      rw [decB_small (by simpa using h), one_size]
      exact Nat.le_refl _
  | k + 1, n, h => by
      by_cases hs : n < 10
      · rw [decB_small hs, one_size]
        omega
      · rw [decB_step hs, ByteArray.size_append, one_size]
        have := decB_size k (n / 10) (by rw [Nat.pow_succ] at h; omega)
        omega
theorem wordB_size {c : C} (h : okC c = true) : (wordB c).size ≤ 8 := by
  obtain ⟨_, h1, h2, hp⟩ := okC_parts h
  have hd : (numB c.n).size ≤ 6 := by
    by_cases h0 : c.n < 0
    · rw [numB_neg h0, ByteArray.size_append]
      have := decB_size 4 (-c.n).toNat (by rw [show 10 ^ (4 + 1) = 100000 from rfl]; omega)
      have e : mnB.size = 1 := rfl
      omega
    · rw [numB_pos (by omega)]
      have := decB_size 4 c.n.toNat (by rw [show 10 ^ (4 + 1) = 100000 from rfl]; omega)
      omega
  unfold wordB
  split
  · rw [ByteArray.size_append]
    have e : xB.size = 1 := rfl
    omega
  · split
    · omega
    · exact hp
end Go.Proofs.Ytkedckmpjedjoaa

/- The specification: decimals, words. -/
namespace Go.Proofs.Ytkedckmpjedjoaa
open Go.RowKit
set_option linter.unusedVariables false
set_option linter.unusedSimpArgs false

set_option maxRecDepth 100000 in
set_option maxHeartbeats 1000000 in
theorem l1Plain_any (n : Nat) (w : World) (hn : n < 100000) :
    Calls Try.prog 192 #[.int .i64 n] w fun e w' => e = .returned (.string (decB n)) ∧ Below w.heap.size w w' := by
  go_enter Try.func192, Try.ntmps192
  go_wp2
  go_loopw [0, 3] (fun nv ov wr => ∃ (m : Nat) (acc : ByteArray), nv = .int .i64 m ∧ ov = .string acc ∧ decB n = decB m ++ acc ∧ m ≤ n ∧ Below w.heap.size w wr) (fun nv _ _ => (intOf nv).toNat)
  case atStart => exact ⟨n, ByteArray.empty, rfl, rfl, by simp, Nat.le_refl _, Below.refl _ _⟩
  case round =>
    obtain ⟨m, acc, rfl, rfl, hd, hm, hB⟩ := hrel
    by_cases h9 : 9 < m
    · have HB := hide (bstep hB (cell_below wr (.cells #[.int .u8 (48 + (m : Int) % 10)] 5)))
      have HD := hide (show decB n = decB (m / 10) ++ (⟨#[UInt8.ofNat (48 + m % 10)]⟩ ++ acc) from by rw [hd, decB_step (by omega), ByteArray.append_assoc])
      have hc := conv1 wr (48 + (m : Int) % 10)
      rw [show (48 + (m : Int) % 10).toNat = 48 + m % 10 by omega] at hc
      have hsz := congrArg ByteArray.size hd
      rw [ByteArray.size_append] at hsz
      have hd5 := decB_size 4 n (by rw [show 10 ^ (4 + 1) = 100000 from rfl]; omega)
      obtain ⟨d, hdd⟩ : ∃ d : ByteArray, d = ⟨#[UInt8.ofNat (48 + m % 10)]⟩ := ⟨_, rfl⟩
      have hd1 : d.size = 1 := by rw [hdd]; rfl
      have hcat : ¬ (d.size + acc.size > 9223372036854775807) := by omega
      rw [← hdd] at hc HD
      clear hd hB hsz hd5 hdd hd1
      go_wp2
      go_roundw
      case rel => exact ⟨m / 10, d ++ acc, by go_num, rfl, unhide HD, by omega, unhide HB⟩
      case measure => simp [intOf]; omega
    · have HB := hide (bstep hB (cell_below wr (.cells #[.int .u8 (48 + (m : Int))] 5)))
      have HD := hide (show decB n = ⟨#[UInt8.ofNat (48 + m)]⟩ ++ acc from by rw [hd, decB_small (by omega)])
      have hc := conv1 wr (48 + (m : Int))
      rw [show (48 + (m : Int)).toNat = 48 + m by omega] at hc
      have hm9 : (m : Int) ≤ 9 := by omega
      have hsz := congrArg ByteArray.size hd
      rw [ByteArray.size_append] at hsz
      have hd5 := decB_size 4 n (by rw [show 10 ^ (4 + 1) = 100000 from rfl]; omega)
      obtain ⟨d, hdd⟩ : ∃ d : ByteArray, d = ⟨#[UInt8.ofNat (48 + m)]⟩ := ⟨_, rfl⟩
      have hd1 : d.size = 1 := by rw [hdd]; rfl
      have hcat : ¬ (d.size + acc.size > 9223372036854775807) := by omega
      rw [← hdd] at hc HD
      clear hd hB hsz hd5 hdd hd1
      go_wp2
      go_ret
      exact ⟨by rw [unhide HD]; rfl, unhide HB⟩

set_option maxRecDepth 100000 in
set_option maxHeartbeats 1000000 in
theorem l1Word_any (c : C) (w : World) (h : okC c = true) :
    Calls Try.prog 189 #[.agg #[.int .i64 c.k, .int .i64 c.n, .string c.s]] w fun e w' => e = .returned (.string (wordB c)) ∧ Below w.heap.size w w' := by
  obtain ⟨k, n, s⟩ := c
  obtain ⟨hk, h1, h2, _⟩ := okC_parts h
  simp only at hk h1 h2 ⊢
  have hv : k = 1 → 0 ≤ n := by
    rintro rfl
    simp [okC] at h
    exact h.1.1
  clear h
  have hX := heap_alloc_new w (.cells #[.int .i64 k, .int .i64 n, .string s] 98)
  obtain ⟨W, hW⟩ : ∃ W, W = w.alloc (.cells #[.int .i64 k, .int .i64 n, .string s] 98) := ⟨_, rfl⟩
  have hB0 : Below w.heap.size w W := by rw [hW]; exact cell_below _ _
  rw [← hW] at hX
  have c0 : W.cell? ⟨w.heap.size, 0, none⟩ = some (.int .i64 k) := by simp only [World.cell?]; rw [hX]; rfl
  have c1 : W.cell? ⟨w.heap.size, 1, none⟩ = some (.int .i64 n) := by simp only [World.cell?]; rw [hX]; rfl
  have c2 : W.cell? ⟨w.heap.size, 2, none⟩ = some (.string s) := by simp only [World.cell?]; rw [hX]; rfl
  clear hX
  have hv := hv
  rcases hk with rfl | rfl | rfl
  · have e1 : wordB ⟨1, n, s⟩ = xB ++ numB n := rfl
    have h0 : 0 ≤ n := hv rfl
    obtain ⟨m, rfl⟩ := Int.eq_ofNat_of_zero_le h0
    have HP := hide (l1Plain_any m W (by omega))
    have HE := hide (show wordB ⟨1, (m : Int), s⟩ = xB ++ decB m from by rw [e1, numB_pos (by omega)]; rfl)
    have hd5 := decB_size 4 m (by rw [show 10 ^ (4 + 1) = 100000 from rfl]; omega)
    obtain ⟨d, hdd⟩ : ∃ d, d = decB m := ⟨_, rfl⟩
    rw [← hdd] at HP HE hd5
    have hcat : ¬ (({ data := #[88] } : ByteArray).size + d.size > 9223372036854775807) := by have : ({ data := #[88] } : ByteArray).size = 1 := rfl; omega
    clear e1 c0 c1 c2 hd5 hdd
    subst hW
    go_enter Try.func189, Try.ntmps189
    go_wp2_with fail
    refine (unhide HP).mono ?_
    rintro e w1 ⟨rfl, hb1⟩
    have hB1 := bstep hB0 hb1
    go_wp2
    go_ret
    exact ⟨by rw [unhide HE]; rfl, hB1⟩
  · have e1 : wordB ⟨2, n, s⟩ = numB n := rfl
    by_cases h0 : n < 0
    · have HP := hide (l1Plain_any (-n).toNat W (by omega))
      rw [show (((-n).toNat : Nat) : Int) = -n by omega] at HP
      have HE := hide (show wordB ⟨2, n, s⟩ = mnB ++ decB (-n).toNat from by rw [e1, numB_neg h0])
      have hd5 := decB_size 4 (-n).toNat (by rw [show 10 ^ (4 + 1) = 100000 from rfl]; omega)
      obtain ⟨d, hdd⟩ : ∃ d, d = decB (-n).toNat := ⟨_, rfl⟩
      rw [← hdd] at HP HE hd5
      have hcat : ¬ (({ data := #[45] } : ByteArray).size + d.size > 9223372036854775807) := by have : ({ data := #[45] } : ByteArray).size = 1 := rfl; omega
      clear e1 c0 c1 c2 hd5 hdd
      subst hW
      go_enter Try.func189, Try.ntmps189
      go_wp2_with fail
      refine (unhide HP).mono ?_
      rintro e w1 ⟨rfl, hb1⟩
      have hB1 := bstep hB0 hb1
      go_wp2
      go_ret
      exact ⟨by rw [unhide HE]; rfl, hB1⟩
    · obtain ⟨m, rfl⟩ := Int.eq_ofNat_of_zero_le (show 0 ≤ n by omega)
      have HP := hide (l1Plain_any m W (by omega))
      have HE := hide (show wordB ⟨2, (m : Int), s⟩ = decB m from by rw [e1, numB_pos (by omega)]; rfl)
      clear e1 c0 c1 c2
      subst hW
      go_enter Try.func189, Try.ntmps189
      go_wp2_with fail
      refine (unhide HP).mono ?_
      rintro e w1 ⟨rfl, hb1⟩
      have hB1 := bstep hB0 hb1
      go_wp2
      go_ret
      exact ⟨by rw [unhide HE]; rfl, hB1⟩
  · have HE := hide (show wordB ⟨3, n, s⟩ = s from rfl)
    clear c0 c1 c2
    subst hW
    go_enter Try.func189, Try.ntmps189
    go_wp2
    go_ret
    exact ⟨by rw [unhide HE]; rfl, hB0⟩
end Go.Proofs.Ytkedckmpjedjoaa

/- A strings.Builder of the program: its writing. -/
namespace Go.Proofs.Ytkedckmpjedjoaa
open Go.RowKit
set_option linter.unusedVariables false
set_option linter.unusedSimpArgs false
attribute [-go_sem] Go.Builtin.append_

theorem two_b {w : World} {B : Nat} {a0 a1 : Value} {T : TypeId} (h : w.heap[B]? = some (.cells #[a0, a1] T (0, 0))) :
    w.cell? ⟨B, 0, none⟩ = some a0 ∧ w.cell? ⟨B, 1, none⟩ = some a1 ∧ w.frozen? ⟨B, 0, none⟩ = false ∧ w.frozen? ⟨B, 1, none⟩ = false := by
  refine ⟨?_, ?_, ?_, ?_⟩ <;> (simp only [World.cell?, World.frozen?]; rw [h]; rfl)
theorem bld_shape {w : World} {b : Nat} {a0 a1 : Value} {T : TypeId} (h : w.heap[b]? = some (.cells #[a0, a1] T (0, 0))) : w.shape? b = some (T, 2) := by
  simp [World.shape?, h]

theorem grown_setB (w : World) (p : Addr) (v : Value) : w.grownBy (w.setCell p v) (some p.block) :=
  ⟨rfl, rfl, rfl, by simp, fun k _ hk => heap_setCell_other w p k v (fun e => hk (by simp [e]))⟩
end Go.Proofs.Ytkedckmpjedjoaa

/- The specification: a term's text. -/
namespace Go.Proofs.Ytkedckmpjedjoaa
open Go.RowKit
set_option linter.unusedVariables false
set_option linter.unusedSimpArgs false
attribute [-go_sem] Go.Builtin.append_

theorem closeB_nil (s : ByteArray) : closeB s ([] : List Int).reverse = (s, []) := rfl
theorem closeB_one (s : ByteArray) (z : List Int) : closeB s (z ++ [1]).reverse = closeB (s ++ rpB) z.reverse := by simp [closeB]
theorem closeB_more (s : ByteArray) (z : List Int) {n : Int} (h : n ≠ 1) : closeB s (z ++ [n]).reverse = (s ++ cmB, (z ++ [n - 1]).reverse) := by simp [closeB, h]

/-- The run of an append of one number. -/
theorem app_oneI (w : World) (base : Nat) (v : Value) (z : List Int) (x : Int) (hO : OwnI w base v z) (hb : base ≤ w.heap.size) (hl : z.length ≤ 1048576) :
    ∃ v' w', (Builtin.append_ #[96, 96] 96 #[v, .slice (some ⟨w.heap.size, 0, none⟩) 1 1]).run Try.prog (w.alloc (.cells #[.int .i64 x] 3)) = .ok v' w' ∧ OwnI w' base v' (z ++ [x]) ∧ Below base w w' := by
  obtain ⟨i0, hi, hz0, hz1, hz2⟩ := info_parts Try.infoInt
  obtain ⟨g, cap, w1, hr, ho, hg, hat, _⟩ := run_append_lies (P := Try.prog) (w.alloc (.cells #[.int .i64 x] 3)) 96 96 base 3 i0 _ 1 8 Try.underlying96 hi hz0 hz1 hz2 rfl (by decide) v z.length _ (World.ownsRow.alloc hO _) ⟨w.heap.size, 0, none⟩ 1 1 [.int .i64 x] rfl (cell_one_new _ _ _) (by intro u hu; simp at hu; subst hu; rfl) (by omega) (by unfold maxLen; omega) (by omega) (by simp; omega) _ rfl
  refine ⟨_, _, hr, ?_, ?_⟩
  · unfold OwnI
    rw [show (z ++ [x]).length = z.length + 1 by simp, show nums (z ++ [x]) = nums z ++ [.int .i64 x] by simp [nums]]
    exact ho
  · have h1 : Below base w (w.alloc (.cells #[.int .i64 x] 3)) := (cell_below w _).mono hb
    exact h1.grown hg (by simp; omega) (fun k e => (World.ownsRow.lt hO k e).1)
theorem ownI_take {w : World} {base cap : Nat} {ao : Option Addr} {z : List Int} {n : Int} (h : OwnI w base (.slice ao (z.length + 1) cap) (z ++ [n])) : OwnI w base (.slice ao z.length cap) z := by
  refine ⟨by simp [nums], ?_⟩
  rcases h.2 with ⟨e, hn⟩ | ⟨g, cap', cur, e, hb, hg, hc, hm, hs, ht⟩
  · simp at hn
  · simp only [Value.slice.injEq] at e
    obtain ⟨rfl, _, rfl⟩ := e
    refine .inr ⟨g, cap, cur, rfl, hb, hg, by simp at hc; omega, hm, hs, ?_⟩
    have : nums z = (nums (z ++ [n])).take (z.length * 1) := by simp [nums]
    rw [this, ← ht, List.take_take]
    congr 1
    simp
theorem ownI_top {w : World} {base cap : Nat} {ao : Option Addr} {z : List Int} {n : Int} (h : OwnI w base (.slice ao (z.length + 1) cap) (z ++ [n])) : ∃ g, ao = some ⟨g, 0, none⟩ ∧ base ≤ g ∧ w.cell? ⟨g, z.length, none⟩ = some (.int .i64 n) ∧ w.frozen? ⟨g, z.length, none⟩ = false ∧ z.length + 1 ≤ cap := by
  rcases h.2 with ⟨e, hn⟩ | ⟨g, cap', cur, e, hb, hg, hc, hm, hs, ht⟩
  · simp at hn
  · simp only [Value.slice.injEq] at e
    obtain ⟨rfl, _, rfl⟩ := e
    have hc2 : z.length + 1 ≤ cap := by simp at hc; omega
    have hx : cur[z.length]? = some (.int .i64 n) := by
      have h1 : (cur.toList.take ((z ++ [n]).length * 1))[z.length]? = some (.int .i64 n) := by rw [ht]; simp [nums]
      rw [List.getElem?_take] at h1
      simpa using h1
    refine ⟨g, rfl, hb, ?_, ?_, hc2⟩
    · simp only [World.cell?]; rw [hg]; simpa using hx
    · simp only [World.frozen?]; rw [hg]; simp
theorem ownI_set {w : World} {base cap g : Nat} {z : List Int} {n m : Int} (h : OwnI w base (.slice (some ⟨g, 0, none⟩) (z.length + 1) cap) (z ++ [n])) : OwnI (w.setCell ⟨g, z.length, none⟩ (.int .i64 m)) base (.slice (some ⟨g, 0, none⟩) (z.length + 1) cap) (z ++ [m]) := by
  have h' : w.ownsRow base 3 1 (.slice (some ⟨g, 0, none⟩) (z.length + 1) cap) (z.length + 1) (nums (z ++ [n])) := by
    have := h
    unfold OwnI at this
    rwa [show (z ++ [n]).length = z.length + 1 by simp] at this
  have := (World.ownsRow.stored h' z.length (.int .i64 m)).1
  unfold OwnI
  rw [show (z ++ [m]).length = z.length + 1 by simp]
  have e : (nums (z ++ [n])).set z.length (.int .i64 m) = nums (z ++ [m]) := by simp [nums, List.set_append]
  rw [e] at this
  exact this
def lenVx : Value → Nat
  | .slice _ n _ => n
  | _ => 0
theorem last_of {z : List Int} (h : 0 < z.length) : ∃ z' n, z = z' ++ [n] := by
  rcases List.eq_nil_or_concat z with rfl | ⟨z', n, rfl⟩
  · simp at h
  · exact ⟨z', n, by simp⟩

set_option maxRecDepth 100000 in
set_option maxHeartbeats 4000000 in
theorem specTrmText_some (b off cap : Nat) (t : List C) (w : World) (hA : At w b off t) (ht : trm t = true) (hcap : t.length ≤ maxLen) :
    Calls Try.prog 178 #[.slice (some ⟨b, off, none⟩) t.length cap] w fun e w' => e = .returned (.string (textOf wordB t)) ∧ Below w.heap.size w w' := by
  have hl := (trm_len ht).2
  have hok := ((trm_iff t).1 ht).2.2.1
  have hF : Fit t := fun c hc => by have := (okC_parts (hok c hc)).2.2.2; unfold maxLen; omega
  have HTO := hide (specTrmOk_any (some ⟨b, off, none⟩) cap t w hcap (.inr ⟨b, off, rfl, hA⟩) hF)
  rw [ht] at HTO
  have HOK := hide hok
  have HA := hide hA
  clear hok hF hA ht hcap
  go_enter Try.func178, Try.ntmps178
  go_wp2_with fail
  refine (unhide HTO).mono ?_
  rintro e w1 ⟨rfl, hb1⟩
  clear HTO
  go_wp2
  go_loopw [3, 4, 5] (fun sv ov kv wr => ∃ (i : Nat) (s : ByteArray) (z : List Int), kv = .int .i64 i ∧ sv = .string s ∧ OwnI wr w.heap.size ov z ∧ i ≤ t.length ∧ s.size + z.length ≤ 10 * i ∧ (∀ x ∈ z, 1 ≤ x ∧ x ≤ 3) ∧ mach wordB (t.drop i) s z.reverse = mach wordB t ByteArray.empty [] ∧ Below w.heap.size w wr) (fun _ _ kv _ => t.length - (intOf kv).toNat)
  case atStart =>
    refine ⟨0, ByteArray.empty, [], rfl, rfl, ?_, Nat.zero_le _, by simp, by simp, rfl, bstep hb1 (cell_below _ _)⟩
    exact World.ownsRow_made w1 #[] 0 hb1.size (by simp [maxLen]) rfl
  case round =>
    obtain ⟨i, s, z, rfl, rfl, hO, hi, hsz, hz3, hm, hB⟩ := hrel
    by_cases hlt : i < t.length
    · obtain ⟨c0, c1, c2⟩ := ((unhide HA).below hB) i hlt
      have hokc := unhide HOK _ (List.getElem_mem hlt)
      rw [List.drop_eq_getElem_cons hlt] at hm
      obtain ⟨c, hc⟩ : ∃ c, c = t[i] := ⟨_, rfl⟩
      rw [← hc] at c0 c1 c2 hokc hm
      clear hc
      have husz := wordB_size hokc
      have hn3 : ari c ≤ 3 := (ari_ok hokc).2
      have HW := hide (l1Word_any c wr hokc)
      obtain ⟨u, hu⟩ : ∃ u, u = wordB c := ⟨_, rfl⟩
      rw [← hu] at husz HW
      have hcat : ¬ (s.size + u.size > 9223372036854775807) := by omega
      obtain ⟨ao0, cp0, rfl, _⟩ := hO.shape
      have hzl : z.length ≤ 1048576 := by omega
      generalize wr = wm at *
      go_wp2_with fail
      refine (unhide HW).mono ?_
      rintro e w2 ⟨rfl, hb2⟩
      have hO2 := hO.below hb2
      have hB2 := bstep hB hb2
      have a0 := (hb2.cell (p := ⟨b, off + i * 3, none⟩) (World.block_lt_of_cell? wm ⟨_, _, none⟩ c0)).trans c0
      have a1 := (hb2.cell (p := ⟨b, off + i * 3 + 1, none⟩) (World.block_lt_of_cell? wm ⟨_, _, none⟩ c1)).trans c1
      clear hO hB c0 c1 c2 HW hb2
      by_cases hp : c.k = 3 ∧ 0 < c.n
      · obtain ⟨hk, hn0⟩ := hp
        have hkb : (c.k == 3) = true := by simpa using hk
        rw [mach, if_pos ⟨hk, hn0⟩, ← hu] at hm
        have hcat2 : ¬ ((s ++ u).size + ({ data := #[40] } : ByteArray).size > 9223372036854775807) := by have : ({ data := #[40] } : ByteArray).size = 1 := rfl; rw [ByteArray.size_append]; omega
        obtain ⟨v', w3, hr, hO3, hb3⟩ := app_oneI w2 w.heap.size _ z c.n hO2 hB2.size hzl
        have HR := hide (show mach wordB (t.drop (i + 1)) (s ++ u ++ lpB) (z ++ [c.n]).reverse = mach wordB t ByteArray.empty [] from by rw [← hm]; simp)
        have hcn : c.n ≤ 3 := by unfold ari at hn3; rw [if_pos hk] at hn3; exact hn3
        have HO := hide (And.intro hO3 (And.intro (hB2.trans hb3) (show ∀ x ∈ z ++ [c.n], 1 ≤ x ∧ x ≤ 3 from fun x hx => by
          rcases List.mem_append.1 hx with h | h
          · exact hz3 x h
          · simp at h; omega)))
        have HS := hide (show (s ++ u ++ lpB).size + (z ++ [c.n]).length ≤ 10 * (i + 1) from by rw [ByteArray.size_append, ByteArray.size_append, show lpB.size = 1 from rfl]; simp; omega)
        clear hO2 hB2 hm hO3 hb3 hz3 hokc hu husz hk hn3
        go_wp2
        go_roundw
        case rel => exact ⟨i + 1, s ++ u ++ lpB, z ++ [c.n], by go_num, rfl, (unhide HO).1, by omega, unhide HS, (unhide HO).2.2, unhide HR, (unhide HO).2.1⟩
        case measure => simp [intOf]; omega
      · rw [mach, if_neg hp, ← hu] at hm
        obtain ⟨s2, hs2⟩ : ∃ s2, s2 = s ++ u := ⟨_, rfl⟩
        have hsz2 : s2.size + z.length ≤ 10 * i + 8 := by rw [hs2, ByteArray.size_append]; omega
        rw [← hs2] at hm
        clear hokc hu husz hn3 hsz
        by_cases hk : c.k = 3
        · have hkb : (c.k == 3) = true := by simpa using hk
          have hn0 : ¬ (0 < c.n) := fun h => hp ⟨hk, h⟩
          clear hp hk
          have HS2 := hide hs2
          clear hs2
          -- the names that are closed
          go_wp2
          go_loopw [3, 4] (fun sv ov wr => ∃ (s' : ByteArray) (z' : List Int), sv = .string s' ∧ OwnI wr w.heap.size ov z' ∧ closeB s' z'.reverse = closeB s2 z.reverse ∧ s'.size + z'.length ≤ 10 * i + 8 ∧ (∀ x ∈ z', 1 ≤ x ∧ x ≤ 3) ∧ Below w.heap.size w wr) (fun _ ov _ => lenVx ov)
          case atStart => exact ⟨s2, z, by rw [unhide HS2], hO2, rfl, hsz2, hz3, hB2⟩
          case round =>
            obtain ⟨s', z', rfl, hO', hcl, hsz', hz3', hB'⟩ := hrel
            clear hO2 hz3 hB2
            by_cases hz0 : z'.length = 0
            · have hz0' : z' = [] := List.length_eq_zero_iff.1 hz0
              subst hz0'
              obtain ⟨ao, cp, rfl, _⟩ := hO'.shape
              have HR := hide (show mach wordB (t.drop (i + 1)) s' ([] : List Int).reverse = mach wordB t ByteArray.empty [] from by rw [← hm, ← hcl]; rfl)
              have HO := hide (And.intro hO' hB')
              clear hO' hB' hcl hm hz0
              go_wp2
              go_roundw
              case rel => exact ⟨i + 1, s', [], by go_num, rfl, (unhide HO).1, by omega, by simp at hsz' ⊢; omega, by simp, unhide HR, (unhide HO).2⟩
              case measure => simp [intOf]; omega
            · obtain ⟨z1, n, rfl⟩ := last_of (Nat.pos_of_ne_zero hz0)
              have hlen : (z1 ++ [n]).length = z1.length + 1 := by simp
              rw [hlen] at hsz' hz0
              obtain ⟨ao, cp, rfl, _⟩ := hO'.shape
              rw [hlen] at hO' ⊢
              obtain ⟨g, rfl, hg, d0, f0, hcp⟩ := ownI_top hO'
              have hn := hz3' n (by simp)
              have hz1 : z1.length ≤ 1000 := by omega
              have e1 : ((z1.length : Int) + 1 - 1) = (z1.length : Int) := by omega
              have hi0 : z1.length < z1.length + 1 := by omega
              have hcat1 : ¬ (s'.size + ({ data := #[41] } : ByteArray).size > 9223372036854775807) := by have : ({ data := #[41] } : ByteArray).size = 1 := rfl; omega
              have hcat2 : ¬ (s'.size + ({ data := #[44] } : ByteArray).size > 9223372036854775807) := by have : ({ data := #[44] } : ByteArray).size = 1 := rfl; omega
              by_cases hn1 : n = 1
              · subst hn1
                have HR := hide (show closeB (s' ++ rpB) z1.reverse = closeB s2 z.reverse from by rw [← hcl, closeB_one])
                have HO := hide (And.intro (ownI_take hO') (And.intro hB' (show ∀ x ∈ z1, 1 ≤ x ∧ x ≤ 3 from fun x hx => hz3' x (by simp [hx]))))
                have HS := hide (show (s' ++ rpB).size + z1.length ≤ 10 * i + 8 from by rw [ByteArray.size_append, show rpB.size = 1 from rfl]; omega)
                clear hO' hB' hcl hz3' hn hlen
                go_wp2
                go_roundw
                case rel => exact ⟨s' ++ rpB, z1, rfl, (unhide HO).1, unhide HR, unhide HS, (unhide HO).2.2, (unhide HO).2.1⟩
                case measure => simp [lenVx]
              · have hnb : (n == 1) = false := by simpa using hn1
                have HR := hide (show mach wordB (t.drop (i + 1)) (s' ++ cmB) (z1 ++ [n - 1]).reverse = mach wordB t ByteArray.empty [] from by rw [← hm, ← hcl, closeB_more _ _ hn1])
                have HO := hide (And.intro (ownI_set (m := n - 1) hO') (And.intro (hB'.setCell (p := ⟨g, z1.length, none⟩) hg (.int .i64 (n - 1))) (show ∀ x ∈ z1 ++ [n - 1], 1 ≤ x ∧ x ≤ 3 from fun x hx => by
                  rcases List.mem_append.1 hx with h | h
                  · exact hz3' x (by simp [h])
                  · simp at h; omega)))
                have HS := hide (show (s' ++ cmB).size + (z1 ++ [n - 1]).length ≤ 10 * (i + 1) from by rw [ByteArray.size_append, show cmB.size = 1 from rfl]; simp; omega)
                clear hO' hB' hcl hz3' hlen hm
                go_wp2
                go_roundw
                case rel => exact ⟨i + 1, s' ++ cmB, z1 ++ [n - 1], by go_num, rfl, (unhide HO).1, by omega, unhide HS, (unhide HO).2.2, unhide HR, (unhide HO).2.1⟩
                case measure => simp [intOf]; omega
        · have hkb : (c.k == 3) = false := by simpa using hk
          clear hp hk
          have HS2 := hide hs2
          clear hs2
          -- the names that are closed
          go_wp2
          go_loopw [3, 4] (fun sv ov wr => ∃ (s' : ByteArray) (z' : List Int), sv = .string s' ∧ OwnI wr w.heap.size ov z' ∧ closeB s' z'.reverse = closeB s2 z.reverse ∧ s'.size + z'.length ≤ 10 * i + 8 ∧ (∀ x ∈ z', 1 ≤ x ∧ x ≤ 3) ∧ Below w.heap.size w wr) (fun _ ov _ => lenVx ov)
          case atStart => exact ⟨s2, z, by rw [unhide HS2], hO2, rfl, hsz2, hz3, hB2⟩
          case round =>
            obtain ⟨s', z', rfl, hO', hcl, hsz', hz3', hB'⟩ := hrel
            clear hO2 hz3 hB2
            by_cases hz0 : z'.length = 0
            · have hz0' : z' = [] := List.length_eq_zero_iff.1 hz0
              subst hz0'
              obtain ⟨ao, cp, rfl, _⟩ := hO'.shape
              have HR := hide (show mach wordB (t.drop (i + 1)) s' ([] : List Int).reverse = mach wordB t ByteArray.empty [] from by rw [← hm, ← hcl]; rfl)
              have HO := hide (And.intro hO' hB')
              clear hO' hB' hcl hm hz0
              go_wp2
              go_roundw
              case rel => exact ⟨i + 1, s', [], by go_num, rfl, (unhide HO).1, by omega, by simp at hsz' ⊢; omega, by simp, unhide HR, (unhide HO).2⟩
              case measure => simp [intOf]; omega
            · obtain ⟨z1, n, rfl⟩ := last_of (Nat.pos_of_ne_zero hz0)
              have hlen : (z1 ++ [n]).length = z1.length + 1 := by simp
              rw [hlen] at hsz' hz0
              obtain ⟨ao, cp, rfl, _⟩ := hO'.shape
              rw [hlen] at hO' ⊢
              obtain ⟨g, rfl, hg, d0, f0, hcp⟩ := ownI_top hO'
              have hn := hz3' n (by simp)
              have hz1 : z1.length ≤ 1000 := by omega
              have e1 : ((z1.length : Int) + 1 - 1) = (z1.length : Int) := by omega
              have hi0 : z1.length < z1.length + 1 := by omega
              have hcat1 : ¬ (s'.size + ({ data := #[41] } : ByteArray).size > 9223372036854775807) := by have : ({ data := #[41] } : ByteArray).size = 1 := rfl; omega
              have hcat2 : ¬ (s'.size + ({ data := #[44] } : ByteArray).size > 9223372036854775807) := by have : ({ data := #[44] } : ByteArray).size = 1 := rfl; omega
              by_cases hn1 : n = 1
              · subst hn1
                have HR := hide (show closeB (s' ++ rpB) z1.reverse = closeB s2 z.reverse from by rw [← hcl, closeB_one])
                have HO := hide (And.intro (ownI_take hO') (And.intro hB' (show ∀ x ∈ z1, 1 ≤ x ∧ x ≤ 3 from fun x hx => hz3' x (by simp [hx]))))
                have HS := hide (show (s' ++ rpB).size + z1.length ≤ 10 * i + 8 from by rw [ByteArray.size_append, show rpB.size = 1 from rfl]; omega)
                clear hO' hB' hcl hz3' hn hlen
                go_wp2
                go_roundw
                case rel => exact ⟨s' ++ rpB, z1, rfl, (unhide HO).1, unhide HR, unhide HS, (unhide HO).2.2, (unhide HO).2.1⟩
                case measure => simp [lenVx]
              · have hnb : (n == 1) = false := by simpa using hn1
                have HR := hide (show mach wordB (t.drop (i + 1)) (s' ++ cmB) (z1 ++ [n - 1]).reverse = mach wordB t ByteArray.empty [] from by rw [← hm, ← hcl, closeB_more _ _ hn1])
                have HO := hide (And.intro (ownI_set (m := n - 1) hO') (And.intro (hB'.setCell (p := ⟨g, z1.length, none⟩) hg (.int .i64 (n - 1))) (show ∀ x ∈ z1 ++ [n - 1], 1 ≤ x ∧ x ≤ 3 from fun x hx => by
                  rcases List.mem_append.1 hx with h | h
                  · exact hz3' x (by simp [h])
                  · simp at h; omega)))
                have HS := hide (show (s' ++ cmB).size + (z1 ++ [n - 1]).length ≤ 10 * (i + 1) from by rw [ByteArray.size_append, show cmB.size = 1 from rfl]; simp; omega)
                clear hO' hB' hcl hz3' hlen hm
                go_wp2
                go_roundw
                case rel => exact ⟨i + 1, s' ++ cmB, z1 ++ [n - 1], by go_num, rfl, (unhide HO).1, by omega, unhide HS, (unhide HO).2.2, unhide HR, (unhide HO).2.1⟩
                case measure => simp [intOf]; omega
    · have hie : i = t.length := by omega
      rw [hie, List.drop_length] at hm
      have HE := hide (show textOf wordB t = s from by unfold textOf; rw [← hm]; rfl)
      clear hm hO hz3
      go_wp2
      go_ret
      exact ⟨by rw [unhide HE]; rfl, hB⟩
end Go.Proofs.Ytkedckmpjedjoaa
