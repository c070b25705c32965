/- The program's OpRead. -/
import Derived.Test.YtplicodloanljaaDoorOpErr
import Derived.Test.YtplicodloanljaaDoorOpWords
import Derived.Test.YtplicodloanljaaDoorOpTextI
import Derived.Test.YtplicodloanljaaDoorDrawOp
import Derived.Laws.CopyOwn
import Derived.Deep.RegionLaw
namespace Go.Proofs.YtplicodloanljaaDoor
open Go.RowKit
set_option linter.unusedVariables false
set_option maxRecDepth 100000

/-- What the package-level variables hold on which the reading turns: the library's bound, its two errors, and the program's own. -/
structure Vars (p : Addr) (W : World) : Prop where
  max : ∃ m, W.cell? ⟨2, 0, none⟩ = some (.int .i64 m)
  syn : ∃ t v, W.cell? ⟨3, 0, none⟩ = some (.iface t v)
  ran : ∃ t v, W.cell? ⟨4, 0, none⟩ = some (.iface t v)
  mal : W.cell? ⟨0, 0, none⟩ = some (errV p)

theorem Vars.later {p : Addr} {W W' : World} (h : Vars p W) (hb : Below W.heap.size W W') : Vars p W' := by
  obtain ⟨⟨m, h1⟩, ⟨t2, v2, h2⟩, ⟨t3, v3, h3⟩, h4⟩ := h
  exact ⟨⟨m, (hb.cell (World.block_lt_of_cell? _ _ h1)).trans h1⟩, ⟨t2, v2, (hb.cell (World.block_lt_of_cell? _ _ h2)).trans h2⟩, ⟨t3, v3, (hb.cell (World.block_lt_of_cell? _ _ h3)).trans h3⟩, (hb.cell (World.block_lt_of_cell? _ _ h4)).trans h4⟩

theorem atoi_ok (s : ByteArray) (n : Int) (h : Lib.atoiAll s.data.toList = .ok n) (hs : s.size ≤ 20) (w : World) :
    Calls Tryd.prog 45 #[.string s] w fun e w' => e = .returned (.tuple #[.int .i64 n, .nilIface]) ∧ Below w.heap.size w w' := by
  refine (Tryd.strconv_Atoi_ok s (by omega) n h w).mono ?_
  rintro e w' ⟨rfl, rfl | ⟨t, rfl⟩⟩
  · exact ⟨rfl, Below.refl _ _⟩
  · exact ⟨rfl, Lib.bytesWorld_below _ _ _⟩

theorem atoi_bad (s : ByteArray) (h : ∀ n, Lib.atoiAll s.data.toList ≠ .ok n) (hs : s.size ≤ 20) (p : Addr) (w : World) (hv : Vars p w) :
    Calls Tryd.prog 45 #[.string s] w fun e w' => ∃ x t v, e = .returned (.tuple #[.int .i64 x, .iface t v]) ∧ Below w.heap.size w w' := by
  obtain ⟨t2, v2, h2⟩ := hv.syn
  obtain ⟨t3, v3, h3⟩ := hv.ran
  rcases ha : Lib.atoiAll s.data.toList with n | _ | _
  · exact absurd ha (h n)
  · have c : Calls Tryd.prog 45 #[.string s] w _ := Any.strconv_Atoi_syntax Tryd.laysC172 s (by omega) ha _ w h2 (.inr ⟨_, _, rfl⟩)
    refine c.mono ?_
    rintro e w' ⟨N, rfl, _, _, hb⟩
    exact ⟨_, _, _, rfl, hb⟩
  · refine (Tryd.strconv_Atoi_range s (by omega) ha _ w h3 (.inr ⟨_, _, rfl⟩)).mono ?_
    rintro e w' ⟨N, rfl, _, _, hb⟩
    exact ⟨_, _, _, rfl, hb⟩

theorem four_cells (w : World) (a b c d : Value) (t : TypeId) : (w.alloc (.cells #[a, b, c, d] t)).cell? ⟨w.heap.size, 0, none⟩ = some a ∧ (w.alloc (.cells #[a, b, c, d] t)).cell? ⟨w.heap.size, 1, none⟩ = some b ∧ (w.alloc (.cells #[a, b, c, d] t)).cell? ⟨w.heap.size, 2, none⟩ = some c ∧ (w.alloc (.cells #[a, b, c, d] t)).cell? ⟨w.heap.size, 3, none⟩ = some d := by
  have h := (new_cells w #[a, b, c, d] t).1
  exact ⟨by rw [h 0]; rfl, by rw [h 1]; rfl, by rw [h 2]; rfl, by rw [h 3]; rfl⟩

/-- What operationOfWords answers. -/
def wordsV (p : Addr) (r : Option Ov) : Value := match r with | some o => .tuple #[opV o, .nilIface] | none => .tuple #[.nilIface, errV p]

set_option maxHeartbeats 3200000 in
theorem operationOfWords_any (w0 w1 w2 w3 : ByteArray) (p : Addr) (w : World) (hv : Vars p w) (h2 : w2.size ≤ 20) :
    Calls Tryd.prog 40 #[.agg #[.string w0, .string w1, .string w2, .string w3]] w fun e w' => e = .returned (wordsV p (progO w0 w1 w2 w3)) ∧ Below w.heap.size w w' := by
  obtain ⟨c0, c1, c2, c3⟩ := four_cells w (.string w0) (.string w1) (.string w2) (.string w3) 73
  have hb0 := new_below w (.cells #[.string w0, .string w1, .string w2, .string w3] 73)
  have HC := Lib.hid (fun W (hb : Below (w.alloc (.cells #[.string w0, .string w1, .string w2, .string w3] 73)).heap.size (w.alloc (.cells #[.string w0, .string w1, .string w2, .string w3] 73)) W) => (⟨⟨(hb.cell (p := ⟨w.heap.size, 0, none⟩) (by rw [World.size_alloc]; exact Nat.lt_succ_self _)).trans c0, (hb.cell (p := ⟨w.heap.size, 1, none⟩) (by rw [World.size_alloc]; exact Nat.lt_succ_self _)).trans c1,
    (hb.cell (p := ⟨w.heap.size, 2, none⟩) (by rw [World.size_alloc]; exact Nat.lt_succ_self _)).trans c2, (hb.cell (p := ⟨w.heap.size, 3, none⟩) (by rw [World.size_alloc]; exact Nat.lt_succ_self _)).trans c3⟩, ((hv.later hb0).later hb).mal⟩ :
    (W.cell? ⟨w.heap.size, 0, none⟩ = some (.string w0) ∧ W.cell? ⟨w.heap.size, 1, none⟩ = some (.string w1) ∧ W.cell? ⟨w.heap.size, 2, none⟩ = some (.string w2) ∧ W.cell? ⟨w.heap.size, 3, none⟩ = some (.string w3)) ∧ W.cell? ⟨0, 0, none⟩ = some (errV p)))
  have HV := Lib.hid (hv.later hb0)
  have HB := Lib.hid hb0
  clear hb0 hv
  cases q1 : (w0.toList == [99, 108, 111, 110, 101])
  · cases q2 : (w0.toList == [103, 111, 110, 101])
    · by_cases ha : ∃ n, Lib.atoiAll w2.data.toList = .ok n
      · obtain ⟨n, ha⟩ := ha
        have HA := Lib.hid (fun W => atoi_ok w2 n ha h2 W)
        clear HV
        cases q3 : (w0.toList == [109, 97, 107, 101])
        · cases q4 : (w0.toList == [119, 114, 105, 116, 101])
          · cases q5 : (w0.toList == [102, 114, 101, 101])
            · skip
              have HO : Hid (progO w0 w1 w2 w3 = none) := Lib.hid (by simp [progO, q1, q2, ha, q3, q4, q5])
              clear ha
              go_enter Tryd.func40, Tryd.ntmps40
              go_wp2_with (go_at_call 45; refine (HA.out _).mono ?_; rintro e w4 ⟨rfl, hb4⟩; have HB4 := Lib.hid ((HB.out).trans (hb4.mono (by rw [World.size_alloc]; exact Nat.le_succ _))); obtain ⟨⟨d0, d1, d2, d3⟩, hm⟩ := HC.out _ hb4; clear hb4)
              go_region
              all_goals (
                go_wp2_with fail
                go_ret2
                rw [HO.out]
                exact ⟨rfl, below_drew HB4.out⟩)
            · skip
              have HO : Hid (progO w0 w1 w2 w3 = some ⟨2, w1, ⟨#[]⟩, n, w3⟩) := Lib.hid (by simp [progO, q1, q2, ha, q3, q4, q5])
              clear ha
              go_enter Tryd.func40, Tryd.ntmps40
              go_wp2_with (go_at_call 45; refine (HA.out _).mono ?_; rintro e w4 ⟨rfl, hb4⟩; have HB4 := Lib.hid ((HB.out).trans (hb4.mono (by rw [World.size_alloc]; exact Nat.le_succ _))); obtain ⟨⟨d0, d1, d2, d3⟩, hm⟩ := HC.out _ hb4; clear hb4)
              go_ret2
              rw [HO.out]
              exact ⟨rfl, HB4.out⟩
          · skip
            have HO : Hid (progO w0 w1 w2 w3 = some ⟨2, w1, ⟨#[]⟩, n, w3⟩) := Lib.hid (by simp [progO, q1, q2, ha, q3, q4])
            clear ha
            go_enter Tryd.func40, Tryd.ntmps40
            go_wp2_with (go_at_call 45; refine (HA.out _).mono ?_; rintro e w4 ⟨rfl, hb4⟩; have HB4 := Lib.hid ((HB.out).trans (hb4.mono (by rw [World.size_alloc]; exact Nat.le_succ _))); obtain ⟨⟨d0, d1, d2, d3⟩, hm⟩ := HC.out _ hb4; clear hb4)
            go_ret2
            rw [HO.out]
            exact ⟨rfl, HB4.out⟩
        · skip
          have HO : Hid (progO w0 w1 w2 w3 = some ⟨1, w1, ⟨#[]⟩, n, ⟨#[]⟩⟩) := Lib.hid (by simp [progO, q1, q2, ha, q3])
          clear ha
          go_enter Tryd.func40, Tryd.ntmps40
          go_wp2_with (go_at_call 45; refine (HA.out _).mono ?_; rintro e w4 ⟨rfl, hb4⟩; have HB4 := Lib.hid ((HB.out).trans (hb4.mono (by rw [World.size_alloc]; exact Nat.le_succ _))); obtain ⟨⟨d0, d1, d2, d3⟩, hm⟩ := HC.out _ hb4; clear hb4)
          go_ret2
          rw [HO.out]
          exact ⟨rfl, HB4.out⟩
      · have hn : ∀ n, Lib.atoiAll w2.data.toList ≠ .ok n := fun n h => ha ⟨n, h⟩
        have HA := Lib.hid (fun W (hb : Below (w.alloc (.cells #[.string w0, .string w1, .string w2, .string w3] 73)).heap.size (w.alloc (.cells #[.string w0, .string w1, .string w2, .string w3] 73)) W) => atoi_bad w2 hn h2 p W (HV.out.later hb))
        have hbr : Below (w.alloc (.cells #[.string w0, .string w1, .string w2, .string w3] 73)).heap.size (w.alloc (.cells #[.string w0, .string w1, .string w2, .string w3] 73)) (w.alloc (.cells #[.string w0, .string w1, .string w2, .string w3] 73)) := Below.refl _ _
        have HO : Hid (progO w0 w1 w2 w3 = none) := Lib.hid (by
          unfold progO
          rw [if_neg (by rw [q1]; exact Bool.false_ne_true), if_neg (by rw [q2]; exact Bool.false_ne_true)]
          rcases hr : Lib.atoiAll w2.data.toList with n | _ | _
          · exact absurd hr (hn n)
          · rfl
          · rfl)
        clear ha hn HV
        go_enter Tryd.func40, Tryd.ntmps40
        go_wp2_with (go_at_call 45; refine (HA.out _ hbr).mono ?_; rintro e w4 ⟨x, t, v, rfl, hb4⟩; have HB4 := Lib.hid ((HB.out).trans (hb4.mono (by rw [World.size_alloc]; exact Nat.le_succ _))); obtain ⟨⟨d0, d1, d2, d3⟩, hm⟩ := HC.out _ hb4; clear hb4 hbr)
        go_region
        all_goals (
          go_wp2_with fail
          go_ret2
          rw [HO.out]
          exact ⟨rfl, below_drew HB4.out⟩)
    · have HO : Hid (progO w0 w1 w2 w3 = some ⟨4, w1, ⟨#[]⟩, 0, ⟨#[]⟩⟩) := Lib.hid (by simp [progO, q1, q2])
      clear HV HC
      go_enter Tryd.func40, Tryd.ntmps40
      go_wp2_with fail
      go_ret2
      rw [HO.out]
      exact ⟨rfl, HB.out⟩
  · have HO : Hid (progO w0 w1 w2 w3 = some ⟨3, w1, w2, 0, ⟨#[]⟩⟩) := Lib.hid (by simp [progO, q1])
    clear HV HC
    go_enter Tryd.func40, Tryd.ntmps40
    go_wp2_with fail
    go_ret2
    rw [HO.out]
    exact ⟨rfl, HB.out⟩

theorem splice4 (ws : List ByteArray) : splice [.string ⟨#[]⟩, .string ⟨#[]⟩, .string ⟨#[]⟩, .string ⟨#[]⟩] 0 ((ws.map Value.string).take 4) =
    [.string (ws.getD 0 ⟨#[]⟩), .string (ws.getD 1 ⟨#[]⟩), .string (ws.getD 2 ⟨#[]⟩), .string (ws.getD 3 ⟨#[]⟩)] := by
  match ws with
  | [] => rfl
  | [a] => rfl
  | [a, b] => rfl
  | [a, b, c] => rfl
  | a :: b :: c :: d :: r => simp [splice]

theorem split_any (s : ByteArray) (h : s.size ≤ 20) (p : Addr) (W : World) (hv : Vars p W) :
    Calls Tryd.prog 39 #[.string s, .string ⟨#[32]⟩] W fun e w' => e = .returned (.slice (some ⟨W.heap.size, 0, none⟩) (cutF s.data.toList).length (cutF s.data.toList).length) ∧ w' = W.alloc (.cells ((cutF s.data.toList).map Value.string).toArray 9) := by
  obtain ⟨m, hm⟩ := hv.max
  have c := Tryd.strings_Split s ⟨#[32]⟩ m W (by omega) hm (by decide)
  rw [splitB_cut] at c
  rw [cutF_length]
  exact c

theorem progO_shape {w0 w1 w2 w3 : ByteArray} {o : Ov} (h : progO w0 w1 w2 w3 = some o) (h3 : w3.size ≤ 20) :
    (∃ name dest, o = ⟨3, name, dest, 0, ⟨#[]⟩⟩) ∨ (∃ name, o = ⟨4, name, ⟨#[]⟩, 0, ⟨#[]⟩⟩) ∨ (∃ name num, o = ⟨1, name, ⟨#[]⟩, num, ⟨#[]⟩⟩) ∨ (∃ name num text, o = ⟨2, name, ⟨#[]⟩, num, text⟩ ∧ text.size ≤ 20) := by
  unfold progO at h
  split at h
  · exact .inl ⟨_, _, (Option.some.inj h).symm⟩
  split at h
  · exact .inr (.inl ⟨_, (Option.some.inj h).symm⟩)
  split at h
  · split at h
    · exact .inr (.inr (.inl ⟨_, _, (Option.some.inj h).symm⟩))
    split at h
    · exact .inr (.inr (.inr ⟨_, _, _, (Option.some.inj h).symm, h3⟩))
    split at h
    · exact .inr (.inr (.inr ⟨_, _, _, (Option.some.inj h).symm, h3⟩))
    · cases h
  · cases h

theorem word_size (s : ByteArray) (h : s.size ≤ 20) (i : Nat) : ((cutF s.data.toList).getD i ⟨#[]⟩).size ≤ 20 := by
  have hw := cutF_words s.data.toList
  have key : ∀ l : List UInt8, ∀ x ∈ wordsL l, x.length ≤ l.length := by
    intro l
    induction l with
    | nil => intro x hx; simp [wordsL] at hx; simp [hx]
    | cons c r ih =>
      intro x hx
      by_cases hc : c = 32
      · subst hc
        rw [wordsL_blank] at hx
        rcases List.mem_cons.1 hx with rfl | hx
        · simp
        · have := ih x hx; simp; omega
      · obtain ⟨a, t, e⟩ := wordsL_ne r
        rw [wordsL_char hc e] at hx
        rcases List.mem_cons.1 hx with rfl | hx
        · have := ih a (by rw [e]; simp); simp; omega
        · have := ih x (by rw [e]; simp [hx]); simp; omega
  by_cases hi : i < (cutF s.data.toList).length
  · have hm : ((cutF s.data.toList).getD i ⟨#[]⟩).data.toList ∈ wordsL s.data.toList := by
      rw [← hw]
      refine List.mem_map.2 ⟨_, ?_, rfl⟩
      rw [List.getD_eq_getElem?_getD, List.getElem?_eq_getElem hi]
      exact List.getElem_mem hi
    have h1 := key _ _ hm
    have e1 : ((cutF s.data.toList).getD i ⟨#[]⟩).data.toList.length = ((cutF s.data.toList).getD i ⟨#[]⟩).size := by simp
    have e2 : s.data.toList.length = s.size := by simp
    omega
  · rw [List.getD_eq_getElem?_getD, List.getElem?_eq_none (by omega)]
    decide

/-- What operationRead answers. -/
def progS (s : ByteArray) : Option Ov := if 20 < s.size then none else progR s

set_option maxHeartbeats 1600000 in
theorem operationRead_long (s : ByteArray) (hs : s.size ≤ maxLen) (h : 20 < s.size) (p : Addr) (w : World) (hv : Vars p w) :
    Calls Tryd.prog 26 #[.string s] w fun e w' => e = .returned (wordsV p none) ∧ Below w.heap.size w w' := by
  have hm := hv.mal
  have h20 : (20 : Int) < (s.size : Int) := by omega
  have hs2 : s.size ≤ 9223372036854775807 := by unfold maxLen at hs; omega
  go_enter Tryd.func26, Tryd.ntmps26
  go_wp2_with fail
  go_region
  all_goals (
    go_wp2_with fail
    go_ret2
    exact ⟨rfl, below_drew (Below.refl _ _)⟩)

theorem four_row {W : World} {b : Nat} {a0 a1 a2 a3 : Value} {t : TypeId} (h : W.heap[b]? = some (.cells #[a0, a1, a2, a3] t (0, 0))) :
    W.cell? ⟨b, 0, none⟩ = some a0 ∧ W.cell? ⟨b, 1, none⟩ = some a1 ∧ W.cell? ⟨b, 2, none⟩ = some a2 ∧ W.cell? ⟨b, 3, none⟩ = some a3 := by
  refine ⟨?_, ?_, ?_, ?_⟩ <;> (unfold World.cell?; simp only [h]; rfl)

theorem row_two (w : World) (A B : Obj) : ((w.alloc A).alloc B).drew.heap[w.heap.size]? = some A := by
  show ((w.alloc A).alloc B).heap[w.heap.size]? = some A
  rw [heap_alloc_old (w.alloc A) B (by rw [World.size_alloc]; exact Nat.lt_succ_self _)]
  exact Array.getElem?_push_size

theorem copy_src (w : World) (A : Obj) (ws : List ByteArray) (g : Nat) : 0 < ((ws.map Value.string).take 4).length → (some (⟨g, 0, none⟩ : Addr)) = some ⟨g, 0, none⟩ ∧ ∃ ad, (some (⟨w.heap.size + 1, 0, none⟩ : Addr)) = some ad ∧
    ∀ j v, ((ws.map Value.string).take 4)[j]? = some v → ((w.alloc A).alloc (.cells (ws.map Value.string).toArray 9)).drew.cell? (ad.add j) = some v := by
  refine fun _ => ⟨rfl, _, rfl, fun j v hj => ?_⟩
  have hc := (new_cells (w.alloc A) (ws.map Value.string).toArray 9).1 j
  rw [World.size_alloc] at hc
  have hl : j < 4 := by
    have := List.getElem?_eq_some_iff.1 hj
    obtain ⟨h, _⟩ := this
    rw [List.length_take] at h
    omega
  rw [List.getElem?_take_of_lt hl] at hj
  show ((w.alloc A).alloc (.cells (ws.map Value.string).toArray 9)).cell? ((⟨w.heap.size + 1, 0, none⟩ : Addr).add j) = some v
  have ea : (⟨w.heap.size + 1, 0, none⟩ : Addr).add j = ⟨w.heap.size + 1, j, none⟩ := by simp [Addr.add]; exact fun h => h.symm
  rw [ea, hc]
  simpa using hj

theorem copy_bel (w : World) (A B : Obj) : Below w.heap.size w ((w.alloc A).alloc B).drew :=
  below_drew ((new_below w A).alloc (by rw [World.size_alloc]; exact Nat.le_succ _) B)

theorem strs_one (ws : List ByteArray) : ∀ v ∈ ws.map Value.string, v.oneCell' = true := by
  intro v hv
  obtain ⟨x, _, rfl⟩ := List.mem_map.1 hv
  rfl

theorem take4_one (ws : List ByteArray) : ∀ v ∈ (ws.map Value.string).take 4, v.oneCell' = true := fun v hv => strs_one ws v (List.mem_of_mem_take hv)

set_option maxHeartbeats 3200000 in
theorem operationRead_short (s : ByteArray) (h : s.size ≤ 20) (p : Addr) (w : World) (hv : Vars p w) :
    Calls Tryd.prog 26 #[.string s] w fun e w' => e = .returned (wordsV p (progR s)) ∧ Below w.heap.size w w' := by
  have h20 : ¬ (20 : Int) < (s.size : Int) := by omega
  have hs2 : s.size ≤ 9223372036854775807 := by omega
  have hb0 := new_below w (.cells #[.string ⟨#[]⟩, .string ⟨#[]⟩, .string ⟨#[]⟩, .string ⟨#[]⟩] 73)
  have HB1 := Lib.hid hb0
  have HV1 := Lib.hid (hv.later hb0)
  have HSP := Lib.hid (fun W hvw => split_any s h p W hvw)
  have HWS := Lib.hid (word_size s h)
  have HL : Hid ((cutF s.data.toList).length ≤ 21) := Lib.hid (by
    rw [cutF_length]
    have := Lib.countB_le ⟨#[32]⟩ (by decide) s.size s (Nat.le_refl _)
    omega)
  have HR : Hid (progR s = match progW (cutF s.data.toList) with
    | some o => if (opB o && (opT o).toList == s.toList) = true then some o else none
    | none => none) := Lib.hid rfl
  generalize progR s = res at HR ⊢
  generalize cutF s.data.toList = ws at HSP HWS HL HR
  have HV0 := Lib.hid hv
  clear hb0 hv
  go_enter Tryd.func26, Tryd.ntmps26
  go_wp2_with fail
  refine wp_region_any (by kernel_rfl) ?_
  try (change wpAny _ _ _ _ _ _ _ (World.drew _))
  refine wpAny_take (i := 0) (v := ?_) rfl (by kernel_rfl) (by kernel_rfl) (by kernel_rfl) (fun _ _ _ h => h) (Or.inl ⟨by rfl, ?_⟩) ?_
  rotate_left
  · intro w; go_simp; try with_reducible rfl
  refine wpAny_take (i := 1) (v := ?_) rfl (by kernel_rfl) (by kernel_rfl) (by kernel_rfl) (fun _ _ _ h => h) (Or.inl ⟨by rfl, ?_⟩) ?_
  rotate_left
  · intro w; go_simp; try with_reducible rfl
  refine wpAny_ready (rs := [2]) (by kernel_rfl) (by simp) ?_
  refine AllReady.cons rfl (fun K hK => ?_) AllReady.nil
  go_simp
  go_wp2_with (go_at_call 39; refine (HSP.out _ (HV1.out.later (Below.drew (Below.refl _ _)))).mono ?_; rintro e w2 ⟨rfl, rfl⟩)
  refine wpAny_ready (rs := [3]) (by kernel_rfl) (by simp) ?_
  refine AllReady.cons rfl (fun K hK => ?_) AllReady.nil
  refine step_copy_splice rfl (.tmp 11) (.tmp 13) 56 56 rfl 9 Tryd.underlying56 (by kernel_rfl) (some ⟨w.heap.size, 0, none⟩) (some ⟨w.heap.size + 1, 0, none⟩) 4 4 ws.length ws.length (by rfl) (by rfl) w.heap.size 0 [.string ⟨#[]⟩, .string ⟨#[]⟩, .string ⟨#[]⟩, .string ⟨#[]⟩] 73 (row_two _ _ _) ((ws.map Value.string).take 4) (by simp [Nat.min_comm]) (copy_src _ _ _ _) (by simp; omega) (take4_one ws) w.heap.size w (copy_bel _ _ _) (Nat.le_refl _) ?_
  intro w4 hg4 hb4
  refine hK _ _ ?_
  clear hK K
  refine wpAny_done (by kernel_rfl) ?_ _
  have hg5 := hg4.out
  rw [splice4] at hg5
  obtain ⟨d0, d1, d2, d3⟩ := four_row hg5
  have HV4 := Lib.hid (HV0.out.later hb4)
  have HB4 := Lib.hid hb4
  have HWO := Lib.hid (fun W hvw => operationOfWords_any (ws.getD 0 ⟨#[]⟩) (ws.getD 1 ⟨#[]⟩) (ws.getD 2 ⟨#[]⟩) (ws.getD 3 ⟨#[]⟩) p W hvw (HWS.out 2))
  have HSH := Lib.hid (fun o (ho : progW ws = some o) => progO_shape (o := o) ho (HWS.out 3))
  have hpw : progO (ws.getD 0 ⟨#[]⟩) (ws.getD 1 ⟨#[]⟩) (ws.getD 2 ⟨#[]⟩) (ws.getD 3 ⟨#[]⟩) = progW ws := rfl
  rw [hpw] at HWO
  clear hpw hb4 hg4 hg5 HSP HL HWS HB1 HV1
  cases hw : progW ws with
  | none =>
    rw [hw] at HWO HR
    have HO : Hid (res = none) := Lib.hid HR.out
    simp only [wordsV, errV] at HWO
    clear hw HR HSH
    go_wp2_with (go_at_call 40; refine (HWO.out _ HV4.out).mono ?_; rintro e w5 ⟨rfl, hb5⟩; have HB5 := Lib.hid (bnext HB4.out hb5); clear hb5)
    go_ret2
    rw [HO.out]
    exact ⟨rfl, HB5.out⟩
  | some o =>
    have HX := Lib.hid (HSH.out o hw)
    rw [hw] at HWO HR
    clear hw HSH
    rcases HX.out with ⟨name, dest, rfl⟩ | ⟨name, rfl⟩ | ⟨name, num, rfl⟩ | ⟨name, num, text, rfl, htx⟩
    · clear HX
      have eV : opV ⟨3, name, dest, 0, ⟨#[]⟩⟩ = clV name dest := rfl
      simp only [wordsV] at HWO
      rw [eV] at HWO
      have HM := meth_clone (.agg #[.string name, .string dest])
      have HTX := Lib.hid (textOf_any ⟨3, name, dest, 0, ⟨#[]⟩⟩)
      rw [eV] at HTX
      unfold clV at HWO HTX
      cases hk : (nameB name.data.toList && nameB dest.data.toList)
      · have HO : Hid (res = none) := Lib.hid (by rw [HR.out]; simp [opB_clone_not name dest 0 ⟨#[]⟩ hk])
        have HI : Hid (∀ W, Calls Tryd.prog 106 #[.agg #[.string name, .string dest]] W fun e w' => e = .returned (.bool false) ∧ Below W.heap.size W w') := Lib.hid (fun W => by have := cloneOk_any name dest W; rwa [hk] at this)
        clear hk HR eV HTX
        go_wp2_with (first
          | (go_at_call 40; refine (HWO.out _ HV4.out).mono ?_; rintro e w5 ⟨rfl, hb5⟩; have HV5 := Lib.hid (HV4.out.later hb5); have HB5 := Lib.hid (bnext HB4.out hb5); clear hb5)
          | (go_at_call 106; refine (HI.out _).mono ?_; rintro e w6 ⟨rfl, hb6⟩; have hm6 := (HV5.out.later hb6).mal; have HB6 := Lib.hid (bnext HB5.out hb6); clear hb6))
        go_region
        all_goals (
          go_wp2_with fail
          go_ret2
          rw [HO.out]
          exact ⟨rfl, below_drew HB6.out⟩)
      · have hB : opB ⟨3, name, dest, 0, ⟨#[]⟩⟩ = true := by
          rw [← opB_clone_same name dest 0 ⟨#[]⟩ hk, sameO_iff]
        have HI : Hid (∀ W, Calls Tryd.prog 106 #[.agg #[.string name, .string dest]] W fun e w' => e = .returned (.bool true) ∧ Below W.heap.size W w') := Lib.hid (fun W => by have := cloneOk_any name dest W; rwa [hk] at this)
        have HT := Lib.hid (fun W => HTX.out W hB)
        clear HTX
        cases he : ((opT ⟨3, name, dest, 0, ⟨#[]⟩⟩).toList == s.toList)
        · have HO : Hid (res = none) := Lib.hid (by rw [HR.out]; simp [he])
          generalize opT ⟨3, name, dest, 0, ⟨#[]⟩⟩ = tx at HT he
          have hne : (!(tx.toList == s.toList)) = true := by rw [he]; rfl
          clear hk HR eV hB he
          go_wp2_with (first
          | (go_at_call 40; refine (HWO.out _ HV4.out).mono ?_; rintro e w5 ⟨rfl, hb5⟩; have HV5 := Lib.hid (HV4.out.later hb5); have HB5 := Lib.hid (bnext HB4.out hb5); clear hb5)
          | (go_at_call 106; refine (HI.out _).mono ?_; rintro e w6 ⟨rfl, hb6⟩; have HV6 := Lib.hid (HV5.out.later hb6); have HB6 := Lib.hid (bnext HB5.out hb6); clear hb6)
          | (go_at_call 23; refine (HT.out _).mono ?_; rintro e w7 ⟨rfl, hb7⟩; have hm7 := (HV6.out.later hb7).mal; have HB7 := Lib.hid (bnext HB6.out hb7); clear hb7))
          go_region
          all_goals (
            go_wp2_with fail
            go_ret2
            rw [HO.out]
            exact ⟨rfl, below_drew HB7.out⟩)
        · have HO : Hid (res = some ⟨3, name, dest, 0, ⟨#[]⟩⟩) := Lib.hid (by rw [HR.out]; simp [he, hB])
          have eW : wordsV p (some ⟨3, name, dest, 0, ⟨#[]⟩⟩) = .tuple #[clV name dest, .nilIface] := rfl
          generalize opT ⟨3, name, dest, 0, ⟨#[]⟩⟩ = tx at HT he
          have hts : tx = s := toList_inj (by simpa using he)
          rw [hts] at HT
          have hne : (s.toList != s.toList) = false := by simp
          clear hk HR eV hB he hts
          go_wp2_with (first
          | (go_at_call 40; refine (HWO.out _ HV4.out).mono ?_; rintro e w5 ⟨rfl, hb5⟩; have HV5 := Lib.hid (HV4.out.later hb5); have HB5 := Lib.hid (bnext HB4.out hb5); clear hb5)
          | (go_at_call 106; refine (HI.out _).mono ?_; rintro e w6 ⟨rfl, hb6⟩; skip; have HB6 := Lib.hid (bnext HB5.out hb6); clear hb6)
          | (go_at_call 23; refine (HT.out _).mono ?_; rintro e w7 ⟨rfl, hb7⟩; have HB7 := Lib.hid (bnext HB6.out hb7); clear hb7))
          go_ret2
          rw [HO.out, eW]
          exact ⟨rfl, HB7.out⟩
    · clear HX
      have eV : opV ⟨4, name, ⟨#[]⟩, 0, ⟨#[]⟩⟩ = goV name := rfl
      simp only [wordsV] at HWO
      rw [eV] at HWO
      have HM := meth_gone (.agg #[.string name])
      have HTX := Lib.hid (textOf_any ⟨4, name, ⟨#[]⟩, 0, ⟨#[]⟩⟩)
      rw [eV] at HTX
      unfold goV at HWO HTX
      cases hk : (nameB name.data.toList)
      · have HO : Hid (res = none) := Lib.hid (by rw [HR.out]; simp [opB_gone_not name ⟨#[]⟩ 0 ⟨#[]⟩ hk])
        have HI : Hid (∀ W, Calls Tryd.prog 108 #[.agg #[.string name]] W fun e w' => e = .returned (.bool false) ∧ Below W.heap.size W w') := Lib.hid (fun W => by have := goneOk_any name W; rwa [hk] at this)
        clear hk HR eV HTX
        go_wp2_with (first
          | (go_at_call 40; refine (HWO.out _ HV4.out).mono ?_; rintro e w5 ⟨rfl, hb5⟩; have HV5 := Lib.hid (HV4.out.later hb5); have HB5 := Lib.hid (bnext HB4.out hb5); clear hb5)
          | (go_at_call 108; refine (HI.out _).mono ?_; rintro e w6 ⟨rfl, hb6⟩; have hm6 := (HV5.out.later hb6).mal; have HB6 := Lib.hid (bnext HB5.out hb6); clear hb6))
        go_region
        all_goals (
          go_wp2_with fail
          go_ret2
          rw [HO.out]
          exact ⟨rfl, below_drew HB6.out⟩)
      · have hB : opB ⟨4, name, ⟨#[]⟩, 0, ⟨#[]⟩⟩ = true := by
          rw [← opB_gone_same name ⟨#[]⟩ 0 ⟨#[]⟩ hk, sameO_iff]
        have HI : Hid (∀ W, Calls Tryd.prog 108 #[.agg #[.string name]] W fun e w' => e = .returned (.bool true) ∧ Below W.heap.size W w') := Lib.hid (fun W => by have := goneOk_any name W; rwa [hk] at this)
        have HT := Lib.hid (fun W => HTX.out W hB)
        clear HTX
        cases he : ((opT ⟨4, name, ⟨#[]⟩, 0, ⟨#[]⟩⟩).toList == s.toList)
        · have HO : Hid (res = none) := Lib.hid (by rw [HR.out]; simp [he])
          generalize opT ⟨4, name, ⟨#[]⟩, 0, ⟨#[]⟩⟩ = tx at HT he
          have hne : (!(tx.toList == s.toList)) = true := by rw [he]; rfl
          clear hk HR eV hB he
          go_wp2_with (first
          | (go_at_call 40; refine (HWO.out _ HV4.out).mono ?_; rintro e w5 ⟨rfl, hb5⟩; have HV5 := Lib.hid (HV4.out.later hb5); have HB5 := Lib.hid (bnext HB4.out hb5); clear hb5)
          | (go_at_call 108; refine (HI.out _).mono ?_; rintro e w6 ⟨rfl, hb6⟩; have HV6 := Lib.hid (HV5.out.later hb6); have HB6 := Lib.hid (bnext HB5.out hb6); clear hb6)
          | (go_at_call 23; refine (HT.out _).mono ?_; rintro e w7 ⟨rfl, hb7⟩; have hm7 := (HV6.out.later hb7).mal; have HB7 := Lib.hid (bnext HB6.out hb7); clear hb7))
          go_region
          all_goals (
            go_wp2_with fail
            go_ret2
            rw [HO.out]
            exact ⟨rfl, below_drew HB7.out⟩)
        · have HO : Hid (res = some ⟨4, name, ⟨#[]⟩, 0, ⟨#[]⟩⟩) := Lib.hid (by rw [HR.out]; simp [he, hB])
          have eW : wordsV p (some ⟨4, name, ⟨#[]⟩, 0, ⟨#[]⟩⟩) = .tuple #[goV name, .nilIface] := rfl
          generalize opT ⟨4, name, ⟨#[]⟩, 0, ⟨#[]⟩⟩ = tx at HT he
          have hts : tx = s := toList_inj (by simpa using he)
          rw [hts] at HT
          have hne : (s.toList != s.toList) = false := by simp
          clear hk HR eV hB he hts
          go_wp2_with (first
          | (go_at_call 40; refine (HWO.out _ HV4.out).mono ?_; rintro e w5 ⟨rfl, hb5⟩; have HV5 := Lib.hid (HV4.out.later hb5); have HB5 := Lib.hid (bnext HB4.out hb5); clear hb5)
          | (go_at_call 108; refine (HI.out _).mono ?_; rintro e w6 ⟨rfl, hb6⟩; skip; have HB6 := Lib.hid (bnext HB5.out hb6); clear hb6)
          | (go_at_call 23; refine (HT.out _).mono ?_; rintro e w7 ⟨rfl, hb7⟩; have HB7 := Lib.hid (bnext HB6.out hb7); clear hb7))
          go_ret2
          rw [HO.out, eW]
          exact ⟨rfl, HB7.out⟩
    · clear HX
      have eV : opV ⟨1, name, ⟨#[]⟩, num, ⟨#[]⟩⟩ = mkV name num := rfl
      simp only [wordsV] at HWO
      rw [eV] at HWO
      have HM := meth_make (.agg #[.string name, .int .i64 num])
      have HTX := Lib.hid (textOf_any ⟨1, name, ⟨#[]⟩, num, ⟨#[]⟩⟩)
      rw [eV] at HTX
      unfold mkV at HWO HTX
      cases hk : (nameB name.data.toList && (decide (1 ≤ num) && decide (num ≤ 6)))
      · have HO : Hid (res = none) := Lib.hid (by rw [HR.out]; simp [opB_make_not name ⟨#[]⟩ num ⟨#[]⟩ hk])
        have HI : Hid (∀ W, Calls Tryd.prog 100 #[.agg #[.string name, .int .i64 num]] W fun e w' => e = .returned (.bool false) ∧ Below W.heap.size W w') := Lib.hid (fun W => by have := makeOk_any name num W; rwa [hk] at this)
        clear hk HR eV HTX
        go_wp2_with (first
          | (go_at_call 40; refine (HWO.out _ HV4.out).mono ?_; rintro e w5 ⟨rfl, hb5⟩; have HV5 := Lib.hid (HV4.out.later hb5); have HB5 := Lib.hid (bnext HB4.out hb5); clear hb5)
          | (go_at_call 100; refine (HI.out _).mono ?_; rintro e w6 ⟨rfl, hb6⟩; have hm6 := (HV5.out.later hb6).mal; have HB6 := Lib.hid (bnext HB5.out hb6); clear hb6))
        go_region
        all_goals (
          go_wp2_with fail
          go_ret2
          rw [HO.out]
          exact ⟨rfl, below_drew HB6.out⟩)
      · have hB : opB ⟨1, name, ⟨#[]⟩, num, ⟨#[]⟩⟩ = true := by
          rw [← opB_make_same name ⟨#[]⟩ num ⟨#[]⟩ hk, sameO_iff]
        have HI : Hid (∀ W, Calls Tryd.prog 100 #[.agg #[.string name, .int .i64 num]] W fun e w' => e = .returned (.bool true) ∧ Below W.heap.size W w') := Lib.hid (fun W => by have := makeOk_any name num W; rwa [hk] at this)
        have HT := Lib.hid (fun W => HTX.out W hB)
        clear HTX
        cases he : ((opT ⟨1, name, ⟨#[]⟩, num, ⟨#[]⟩⟩).toList == s.toList)
        · have HO : Hid (res = none) := Lib.hid (by rw [HR.out]; simp [he])
          generalize opT ⟨1, name, ⟨#[]⟩, num, ⟨#[]⟩⟩ = tx at HT he
          have hne : (!(tx.toList == s.toList)) = true := by rw [he]; rfl
          clear hk HR eV hB he
          go_wp2_with (first
          | (go_at_call 40; refine (HWO.out _ HV4.out).mono ?_; rintro e w5 ⟨rfl, hb5⟩; have HV5 := Lib.hid (HV4.out.later hb5); have HB5 := Lib.hid (bnext HB4.out hb5); clear hb5)
          | (go_at_call 100; refine (HI.out _).mono ?_; rintro e w6 ⟨rfl, hb6⟩; have HV6 := Lib.hid (HV5.out.later hb6); have HB6 := Lib.hid (bnext HB5.out hb6); clear hb6)
          | (go_at_call 23; refine (HT.out _).mono ?_; rintro e w7 ⟨rfl, hb7⟩; have hm7 := (HV6.out.later hb7).mal; have HB7 := Lib.hid (bnext HB6.out hb7); clear hb7))
          go_region
          all_goals (
            go_wp2_with fail
            go_ret2
            rw [HO.out]
            exact ⟨rfl, below_drew HB7.out⟩)
        · have HO : Hid (res = some ⟨1, name, ⟨#[]⟩, num, ⟨#[]⟩⟩) := Lib.hid (by rw [HR.out]; simp [he, hB])
          have eW : wordsV p (some ⟨1, name, ⟨#[]⟩, num, ⟨#[]⟩⟩) = .tuple #[mkV name num, .nilIface] := rfl
          generalize opT ⟨1, name, ⟨#[]⟩, num, ⟨#[]⟩⟩ = tx at HT he
          have hts : tx = s := toList_inj (by simpa using he)
          rw [hts] at HT
          have hne : (s.toList != s.toList) = false := by simp
          clear hk HR eV hB he hts
          go_wp2_with (first
          | (go_at_call 40; refine (HWO.out _ HV4.out).mono ?_; rintro e w5 ⟨rfl, hb5⟩; have HV5 := Lib.hid (HV4.out.later hb5); have HB5 := Lib.hid (bnext HB4.out hb5); clear hb5)
          | (go_at_call 100; refine (HI.out _).mono ?_; rintro e w6 ⟨rfl, hb6⟩; skip; have HB6 := Lib.hid (bnext HB5.out hb6); clear hb6)
          | (go_at_call 23; refine (HT.out _).mono ?_; rintro e w7 ⟨rfl, hb7⟩; have HB7 := Lib.hid (bnext HB6.out hb7); clear hb7))
          go_ret2
          rw [HO.out, eW]
          exact ⟨rfl, HB7.out⟩
    · clear HX
      have eV : opV ⟨2, name, ⟨#[]⟩, num, text⟩ = wrV name num text := rfl
      simp only [wordsV] at HWO
      rw [eV] at HWO
      have HM := meth_write (.agg #[.string name, .int .i64 num, .string text])
      have HTX := Lib.hid (textOf_any ⟨2, name, ⟨#[]⟩, num, text⟩)
      rw [eV] at HTX
      unfold wrV at HWO HTX
      cases hk : (nameB name.data.toList && (decide (0 ≤ num) && decide (num ≤ 5)) && tokB text.data.toList)
      · have HO : Hid (res = none) := Lib.hid (by rw [HR.out]; simp [opB_write_not name ⟨#[]⟩ num text hk])
        have HI : Hid (∀ W, Calls Tryd.prog 103 #[.agg #[.string name, .int .i64 num, .string text]] W fun e w' => e = .returned (.bool false) ∧ Below W.heap.size W w') := Lib.hid (fun W => by have := writeOk_any name num text W (by unfold maxLen; omega); rwa [hk] at this)
        clear hk HR eV HTX
        go_wp2_with (first
          | (go_at_call 40; refine (HWO.out _ HV4.out).mono ?_; rintro e w5 ⟨rfl, hb5⟩; have HV5 := Lib.hid (HV4.out.later hb5); have HB5 := Lib.hid (bnext HB4.out hb5); clear hb5)
          | (go_at_call 103; refine (HI.out _).mono ?_; rintro e w6 ⟨rfl, hb6⟩; have hm6 := (HV5.out.later hb6).mal; have HB6 := Lib.hid (bnext HB5.out hb6); clear hb6))
        go_region
        all_goals (
          go_wp2_with fail
          go_ret2
          rw [HO.out]
          exact ⟨rfl, below_drew HB6.out⟩)
      · have hB : opB ⟨2, name, ⟨#[]⟩, num, text⟩ = true := by
          rw [← opB_write_same name ⟨#[]⟩ num text hk, sameO_iff]
        have HI : Hid (∀ W, Calls Tryd.prog 103 #[.agg #[.string name, .int .i64 num, .string text]] W fun e w' => e = .returned (.bool true) ∧ Below W.heap.size W w') := Lib.hid (fun W => by have := writeOk_any name num text W (by unfold maxLen; omega); rwa [hk] at this)
        have HT := Lib.hid (fun W => HTX.out W hB)
        clear HTX
        cases he : ((opT ⟨2, name, ⟨#[]⟩, num, text⟩).toList == s.toList)
        · have HO : Hid (res = none) := Lib.hid (by rw [HR.out]; simp [he])
          generalize opT ⟨2, name, ⟨#[]⟩, num, text⟩ = tx at HT he
          have hne : (!(tx.toList == s.toList)) = true := by rw [he]; rfl
          clear hk HR eV hB he
          go_wp2_with (first
          | (go_at_call 40; refine (HWO.out _ HV4.out).mono ?_; rintro e w5 ⟨rfl, hb5⟩; have HV5 := Lib.hid (HV4.out.later hb5); have HB5 := Lib.hid (bnext HB4.out hb5); clear hb5)
          | (go_at_call 103; refine (HI.out _).mono ?_; rintro e w6 ⟨rfl, hb6⟩; have HV6 := Lib.hid (HV5.out.later hb6); have HB6 := Lib.hid (bnext HB5.out hb6); clear hb6)
          | (go_at_call 23; refine (HT.out _).mono ?_; rintro e w7 ⟨rfl, hb7⟩; have hm7 := (HV6.out.later hb7).mal; have HB7 := Lib.hid (bnext HB6.out hb7); clear hb7))
          go_region
          all_goals (
            go_wp2_with fail
            go_ret2
            rw [HO.out]
            exact ⟨rfl, below_drew HB7.out⟩)
        · have HO : Hid (res = some ⟨2, name, ⟨#[]⟩, num, text⟩) := Lib.hid (by rw [HR.out]; simp [he, hB])
          have eW : wordsV p (some ⟨2, name, ⟨#[]⟩, num, text⟩) = .tuple #[wrV name num text, .nilIface] := rfl
          generalize opT ⟨2, name, ⟨#[]⟩, num, text⟩ = tx at HT he
          have hts : tx = s := toList_inj (by simpa using he)
          rw [hts] at HT
          have hne : (s.toList != s.toList) = false := by simp
          clear hk HR eV hB he hts
          go_wp2_with (first
          | (go_at_call 40; refine (HWO.out _ HV4.out).mono ?_; rintro e w5 ⟨rfl, hb5⟩; have HV5 := Lib.hid (HV4.out.later hb5); have HB5 := Lib.hid (bnext HB4.out hb5); clear hb5)
          | (go_at_call 103; refine (HI.out _).mono ?_; rintro e w6 ⟨rfl, hb6⟩; skip; have HB6 := Lib.hid (bnext HB5.out hb6); clear hb6)
          | (go_at_call 23; refine (HT.out _).mono ?_; rintro e w7 ⟨rfl, hb7⟩; have HB7 := Lib.hid (bnext HB6.out hb7); clear hb7))
          go_ret2
          rw [HO.out, eW]
          exact ⟨rfl, HB7.out⟩

theorem operationRead_any (s : ByteArray) (hs : s.size ≤ maxLen) (p : Addr) (w : World) (hv : Vars p w) :
    Calls Tryd.prog 26 #[.string s] w fun e w' => e = .returned (wordsV p (progS s)) ∧ Below w.heap.size w w' := by
  unfold progS
  by_cases h : 20 < s.size
  · rw [if_pos h]
    exact operationRead_long s hs h p w hv
  · rw [if_neg h]
    exact operationRead_short s (by omega) p w hv

theorem progS_read (s : ByteArray) : readB s = (match progS s with | some o => (o, true) | none => (Ov.zero, false)) := by
  unfold progS
  by_cases h : 20 < s.size
  · rw [if_pos h]
    unfold readB
    rw [if_pos h]
  · rw [if_neg h]
    exact progR_read s (by omega)

theorem progS_shape {s : ByteArray} {o : Ov} (h : progS s = some o) :
    (∃ name dest, o = ⟨3, name, dest, 0, ⟨#[]⟩⟩) ∨ (∃ name, o = ⟨4, name, ⟨#[]⟩, 0, ⟨#[]⟩⟩) ∨ (∃ name num, o = ⟨1, name, ⟨#[]⟩, num, ⟨#[]⟩⟩) ∨ (∃ name num text, o = ⟨2, name, ⟨#[]⟩, num, text⟩) := by
  unfold progS at h
  split at h
  · cases h
  · rename_i hl
    unfold progR at h
    split at h
    · rename_i o' hw
      split at h
      · cases h
        rcases progO_shape hw (word_size s (by omega) 3) with ⟨a, b, h⟩ | ⟨a, h⟩ | ⟨a, b, h⟩ | ⟨a, b, c, h, _⟩
        · exact .inl ⟨a, b, h⟩
        · exact .inr (.inl ⟨a, h⟩)
        · exact .inr (.inr (.inl ⟨a, b, h⟩))
        · exact .inr (.inr (.inr ⟨a, b, c, h⟩))
      · cases h
    · cases h

theorem opOf_any {s : ByteArray} {o : Ov} (h : progS s = some o) (w : World) :
    Calls Tryd.prog 28 #[opV o] w fun e w' => e = .returned o.val ∧ Below w.heap.size w w' := by
  rcases progS_shape h with ⟨a, b, rfl⟩ | ⟨a, rfl⟩ | ⟨a, b, rfl⟩ | ⟨a, b, c, rfl⟩
  · exact opOf_clone a b w
  · exact opOf_gone a w
  · exact opOf_make a b w
  · exact opOf_write a b c w

end Go.Proofs.YtplicodloanljaaDoor
