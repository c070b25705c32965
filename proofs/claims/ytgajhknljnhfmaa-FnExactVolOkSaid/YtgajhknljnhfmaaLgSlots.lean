/- What the laws' comparisons of slots answer. -/
import Derived.Test.YtgajhknljnhfmaaStoreV
namespace Go.Proofs.Ytgajhknljnhfmaa
open Go.RowKit
set_option maxRecDepth 100000

theorem equal_slot (t1 t2 : ByteArray) (u1 u2 : Int) (w : World) :
    (Op.equalIn 10000 35 (.agg #[.string t1, .int .i64 u1]) (.agg #[.string t2, .int .i64 u2])).run Try.prog w = .ok (t1.toList == t2.toList && u1 == u2) w := by
  rw [run_equalIn_struct w 9999 35 _ _ (by kernel_rfl) (by kernel_rfl)]
  have hf : Try.prog.fieldsOf 35 = (match Try.prog.underlying 35 with | some (.struct fs) => fs | _ => #[]) := rfl
  rw [hf, Try.underlying35]
  cases h : (t1.toList == t2.toList)
  · simp [Op.eqFields, go_sem, h]
  · by_cases hu : u1 = u2
    · simp [Op.eqFields, go_sem, h, hu]
    · have hu2 : (u1 == u2) = false := by simpa using hu
      simp [Op.eqFields, go_sem, h, hu2]

theorem neq_slot (t1 t2 : ByteArray) (u1 u2 : Int) (w : World) :
    (binOp .neq 35 (.agg #[.string t1, .int .i64 u1]) (.agg #[.string t2, .int .i64 u2])).run Try.prog w = .ok (.bool (!(t1.toList == t2.toList && u1 == u2))) w := by
  rw [run_neq_struct, equal_slot]
  rfl

theorem eql_slot (t1 t2 : ByteArray) (u1 u2 : Int) (w : World) :
    (binOp .eql 35 (.agg #[.string t1, .int .i64 u1]) (.agg #[.string t2, .int .i64 u2])).run Try.prog w = .ok (.bool (t1.toList == t2.toList && u1 == u2)) w := by
  rw [run_eql_struct, equal_slot]
  rfl

set_option maxHeartbeats 800000 in
theorem lgSlots_some (g1 o1 g2 o2 n c1 c2 : Nat) (xs ys : List Sl) (w : World) (hx : Slots w g1 o1 xs) (hy : Slots w g2 o2 ys) (hn : xs.length = n) (hm : ys.length = n) (hn1 : n ≤ 2000000) :
    Calls Try.prog 27 #[.slice (some ⟨g1, o1, none⟩) n c1, .slice (some ⟨g2, o2, none⟩) n c2] w fun e w' => e = .returned (.bool (sameTo xs ys n)) ∧ Drawn w w' := by
  have Hx := Lib.hid hx
  have Hy := Lib.hid hy
  have Hn := Lib.hid hn
  have Hm := Lib.hid hm
  clear hx hy hn hm
  go_enter Try.func27, Try.ntmps27
  go_wp2_with fail
  go_loopw [5] (fun i wr => ∃ k : Nat, k ≤ n ∧ i = .int .i64 (k : Int) ∧ sameTo xs ys k = true ∧ Drawn w wr) (fun i _ => n - (intOf i).toNat)
  case atStart => exact ⟨0, by omega, rfl, rfl, Drawn.refl _⟩
  case round =>
    obtain ⟨k, hk, rfl, hs, hD⟩ := hrel
    have Hs := Lib.hid hs
    clear hs
    by_cases hlt : k < n
    · obtain ⟨ha, hb⟩ := Hx.out k (by rw [Hn.out]; exact hlt)
      obtain ⟨hc, hd⟩ := Hy.out k (by rw [Hm.out]; exact hlt)
      rw [← hD.cell] at ha hb hc hd
      have Hno := Lib.hid (fun (h : sameSl (nth xs k) (nth ys k) = false) => all_range_no (fun i => sameSl (nth xs i) (nth ys i)) n k hlt h)
      have Hyes := Lib.hid (fun (h : sameSl (nth xs k) (nth ys k) = true) => all_range_succ (fun i => sameSl (nth xs i) (nth ys i)) k Hs.out h)
      obtain ⟨x, hxk⟩ : ∃ x, nth xs k = x := ⟨_, rfl⟩
      obtain ⟨y, hyk⟩ : ∃ y, nth ys k = y := ⟨_, rfl⟩
      rw [hxk, hyk] at Hno Hyes
      rw [hxk] at ha hb
      rw [hyk] at hc hd
      clear hxk hyk
      obtain ⟨t1, u1⟩ := x
      obtain ⟨t2, u2⟩ := y
      simp only [sameSl] at Hno Hyes
      simp only at ha hb hc hd
      have hcmp := neq_slot t1 t2 u1 u2
      cases hb2 : (t1.toList == t2.toList && u1 == u2)
      · rw [hb2] at hcmp
        simp only [Bool.not_false] at hcmp
        have Hq := Lib.hid (Hno.out hb2)
        clear hb2 Hno Hyes
        go_wp2_with fail
        go_quiet (fail)
        go_wp2_with fail
        go_ret
        exact ⟨by rw [show sameTo xs ys n = false from Hq.out]; rfl, hD.more _⟩
      · rw [hb2] at hcmp
        simp only [Bool.not_true] at hcmp
        have Hq := Lib.hid (Hyes.out hb2)
        clear hb2 Hno Hyes
        go_wp2_with fail
        go_quiet (fail)
        go_wp2_with fail
        go_roundw
        case rel => exact ⟨k + 1, by omega, by go_num, Hq.out, hD.more _⟩
        case measure => simp [intOf]; omega
    · obtain rfl : k = n := by omega
      go_wp2_with fail
      go_ret
      exact ⟨by rw [Hs.out]; rfl, hD⟩

set_option maxHeartbeats 400000 in
theorem lgSlots_v (v1 v2 : Value) (xs ys : List Sl) (w : World) (hx : Slv w v1 xs) (hy : Slv w v2 ys) :
    Calls Try.prog 27 #[v1, v2] w fun e w' => e = .returned (.bool (sameSls xs ys)) ∧ Below w.heap.size w w' := by
  obtain ⟨a1, n1, c1, rfl, hn1, hm1, hs1⟩ := hx
  obtain ⟨a2, n2, c2, rfl, hn2, hm2, hs2⟩ := hy
  by_cases he : n1 = n2
  · subst he
    have hq : sameSls xs ys = sameTo xs ys n1 := by simp [sameSls, hn1, hn2]
    rw [hq]
    by_cases h0 : 0 < n1
    · rcases hs1 with rfl | ⟨g1, o1, rfl, hs1⟩
      · simp at hn1; omega
      · rcases hs2 with rfl | ⟨g2, o2, rfl, hs2⟩
        · simp at hn2; omega
        · refine (lgSlots_some g1 o1 g2 o2 n1 c1 c2 xs ys w hs1 hs2 hn1 hn2 hm1).mono ?_
          rintro e w' ⟨h, hD⟩
          exact ⟨h, hD.below _⟩
    · obtain rfl : n1 = 0 := by omega
      clear hs1 hs2 hn1 hn2 hq
      go_enter Try.func27, Try.ntmps27
      go_wp2_with fail
      go_loop [5] (fun i' => i' = .int .i64 0) (fun _ => 0)
      case atStart => rfl
      case round =>
        obtain rfl := hrel
        go_wp2_with fail
        go_ret
        exact ⟨rfl, Below.refl _ _⟩
  · rw [sameSls_len xs ys (by omega)]
    have he2 : ((n1 : Int) != n2) = true := by simp; omega
    clear hs1 hs2 hn1 hn2
    go_enter Try.func27, Try.ntmps27
    go_wp2_with fail
    go_ret
    exact ⟨rfl, Below.refl _ _⟩

/-- All slots but number j + 1 are the same. -/
def butTo (xs ys : List Sl) (at' : Int) (k : Nat) : Bool := (List.range k).all fun i => decide ((i : Int) = at' - 1) || sameSl (nth xs i) (nth ys i)

set_option maxHeartbeats 800000 in
theorem lgBut_some (g1 o1 g2 o2 n c1 c2 : Nat) (at' : Int) (xs ys : List Sl) (w : World) (hx : Slots w g1 o1 xs) (hy : Slots w g2 o2 ys) (hn : xs.length = n) (hm : ys.length = n) (hn1 : n ≤ 2000000) (ha0 : 0 ≤ at') (ha1 : at' ≤ 100) :
    Calls Try.prog 29 #[.slice (some ⟨g1, o1, none⟩) n c1, .slice (some ⟨g2, o2, none⟩) n c2, .int .i64 at'] w fun e w' => e = .returned (.bool (butTo xs ys at' n)) ∧ Drawn w w' := by
  have Hx := Lib.hid hx
  have Hy := Lib.hid hy
  have Hn := Lib.hid hn
  have Hm := Lib.hid hm
  clear hx hy hn hm
  go_enter Try.func29, Try.ntmps29
  go_wp2_with fail
  go_loopw [7] (fun i wr => ∃ k : Nat, k ≤ n ∧ i = .int .i64 (k : Int) ∧ butTo xs ys at' k = true ∧ Drawn w wr) (fun i _ => n - (intOf i).toNat)
  case atStart => exact ⟨0, by omega, rfl, rfl, Drawn.refl _⟩
  case round =>
    obtain ⟨k, hk, rfl, hs, hD⟩ := hrel
    have Hs := Lib.hid hs
    clear hs
    by_cases hlt : k < n
    · obtain ⟨ha, hb⟩ := Hx.out k (by rw [Hn.out]; exact hlt)
      obtain ⟨hc, hd⟩ := Hy.out k (by rw [Hm.out]; exact hlt)
      rw [← hD.cell] at ha hb hc hd
      have Hno := Lib.hid (fun (h : (decide ((k : Int) = at' - 1) || sameSl (nth xs k) (nth ys k)) = false) => all_range_no (fun i => decide ((i : Int) = at' - 1) || sameSl (nth xs i) (nth ys i)) n k hlt h)
      have Hyes := Lib.hid (fun (h : (decide ((k : Int) = at' - 1) || sameSl (nth xs k) (nth ys k)) = true) => all_range_succ (fun i => decide ((i : Int) = at' - 1) || sameSl (nth xs i) (nth ys i)) k Hs.out h)
      obtain ⟨x, hxk⟩ : ∃ x, nth xs k = x := ⟨_, rfl⟩
      obtain ⟨y, hyk⟩ : ∃ y, nth ys k = y := ⟨_, rfl⟩
      rw [hxk, hyk] at Hno Hyes
      rw [hxk] at ha hb
      rw [hyk] at hc hd
      clear hxk hyk
      obtain ⟨t1, u1⟩ := x
      obtain ⟨t2, u2⟩ := y
      simp only [sameSl] at Hno Hyes
      simp only at ha hb hc hd
      have hcmp := neq_slot t1 t2 u1 u2
      by_cases hat : (k : Int) = at' - 1
      · have Hq := Lib.hid (Hyes.out (by simp [hat]))
        have g1 : ((k : Int) != at' - 1) = false := by rw [hat]; simp
        clear Hno Hyes hcmp hat ha hb hc hd
        go_wp2_with fail
        go_quiet (fail)
        go_wp2_with fail
        go_roundw
        case rel => exact ⟨k + 1, by omega, by go_num, Hq.out, hD.more _⟩
        case measure => simp [intOf]; omega
      · have g1 : ((k : Int) != at' - 1) = true := by simpa using hat
        have g2 : decide ((k : Int) = at' - 1) = false := by simpa using hat
        cases hb2 : (t1.toList == t2.toList && u1 == u2)
        · rw [hb2] at hcmp
          simp only [Bool.not_false] at hcmp
          have Hq := Lib.hid (Hno.out (by rw [hb2, g2]; rfl))
          clear hb2 Hno Hyes hat g2
          go_wp2_with fail
          go_quiet (fail)
          go_wp2_with fail
          go_ret
          exact ⟨by rw [show butTo xs ys at' n = false from Hq.out]; rfl, hD.more _⟩
        · rw [hb2] at hcmp
          simp only [Bool.not_true] at hcmp
          have Hq := Lib.hid (Hyes.out (by rw [hb2]; simp))
          clear hb2 Hno Hyes hat g2
          go_wp2_with fail
          go_quiet (fail)
          go_wp2_with fail
          go_roundw
          case rel => exact ⟨k + 1, by omega, by go_num, Hq.out, hD.more _⟩
          case measure => simp [intOf]; omega
    · obtain rfl : k = n := by omega
      go_wp2_with fail
      go_ret
      exact ⟨by rw [Hs.out]; rfl, hD⟩

end Go.Proofs.Ytgajhknljnhfmaa
