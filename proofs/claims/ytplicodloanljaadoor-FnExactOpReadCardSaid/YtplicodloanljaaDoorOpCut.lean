/- How the model reads a change's text: a number, a word. -/
import Derived.Test.YtplicodloanljaaDoorOp
namespace Go.Proofs.YtplicodloanljaaDoor
open Go.RowKit
set_option linter.unusedVariables false
set_option maxRecDepth 100000

def digB (c : UInt8) : Bool := decide (48 ≤ c.toNat) && decide (c.toNat ≤ 57)

def decV (l : List UInt8) : Int := l.foldl (fun n c => 10 * n + ((c.toNat : Int) - 48)) 0

/-- A number of one figure, or two; -1, if it is none. -/
def decF (l : List UInt8) : Int := if (decide (1 ≤ l.length) && decide (l.length ≤ 2)) && l.all digB then decV l else -1

theorem decF_long {s : ByteArray} (h : s.size < 1 ∨ 2 < s.size) : decF s.data.toList = -1 := by
  have hl : s.data.toList.length = s.size := by simp
  unfold decF
  rw [if_neg]
  simp only [hl, Bool.and_eq_true, decide_eq_true_eq]
  omega

theorem decF_bad (s : ByteArray) (k : Nat) (h : k < s.size) (hc : digB s[k] = false) : decF s.data.toList = -1 := by
  unfold decF
  rw [if_neg]
  simp only [Bool.and_eq_true]
  rintro ⟨_, ha⟩
  rw [← List.take_append_drop (k + 1) s.data.toList, List.all_append, take_snoc s k h, List.all_append] at ha
  simp [hc] at ha

theorem decF_all {s : ByteArray} (h1 : 1 ≤ s.size) (h2 : s.size ≤ 2) (ha : s.data.toList.all digB = true) : decF s.data.toList = decV s.data.toList := by
  have hl : s.data.toList.length = s.size := by simp
  unfold decF
  rw [if_pos]
  simp only [hl, Bool.and_eq_true, decide_eq_true_eq]
  exact ⟨⟨h1, h2⟩, ha⟩

theorem decV_snoc (s : ByteArray) (k : Nat) (h : k < s.size) : decV (s.data.toList.take (k + 1)) = 10 * decV (s.data.toList.take k) + ((s[k].toNat : Int) - 48) := by
  rw [take_snoc s k h]; simp [decV]

theorem dig_snoc (s : ByteArray) (k : Nat) (h : k < s.size) (ha : (s.data.toList.take k).all digB = true) (hc : digB s[k] = true) :
    (s.data.toList.take (k + 1)).all digB = true := by
  rw [take_snoc s k h, List.all_append, ha]; simp [hc]

set_option maxHeartbeats 800000 in
theorem l12Dec_any (s : ByteArray) (w : World) (hs : s.size ≤ maxLen) :
    Calls Tryd.prog 33 #[.string s] w fun e w' => e = .returned (.int .i64 (decF s.data.toList)) ∧ w' = w := by
  unfold maxLen at hs
  by_cases hl : s.size < 1 ∨ 2 < s.size
  · have HO := Lib.hid (decF_long hl)
    have hb : (decide ((1 : Int) ≤ s.size) && decide ((s.size : Int) ≤ 2)) = false := by
      rcases hl with h | h
      · rw [decide_eq_false (by omega)]; rfl
      · rw [decide_eq_false (p := (s.size : Int) ≤ 2) (by omega)]; simp
    clear hl
    go_enter Tryd.func33, Tryd.ntmps33
    go_wp2_with (go_at_call 37; refine (l6In_any _ _ _ _).mono ?_; rw [hb]; rintro e w' ⟨rfl, rfl⟩)
    go_ret
    exact ⟨by rw [HO.out]; rfl, rfl⟩
  · have hb : (decide ((1 : Int) ≤ s.size) && decide ((s.size : Int) ≤ 2)) = true := by
      rw [decide_eq_true (by omega), decide_eq_true (by omega)]; rfl
    have h1 : 1 ≤ s.size := by omega
    have h2 : s.size ≤ 2 := by omega
    clear hl
    go_enter Tryd.func33, Tryd.ntmps33
    go_wp2_with (go_at_call 37; refine (l6In_any _ _ _ _).mono ?_; rw [hb]; rintro e w' ⟨rfl, rfl⟩)
    have H2 := Lib.hid h2
    have H1 := Lib.hid h1
    clear hb
    go_loop [3, 4] (fun n' i' => ∃ (k : Nat) (v : Int), k ≤ s.size ∧ n' = .int .i64 v ∧ i' = .int .i64 (k : Int) ∧ v = decV (s.data.toList.take k) ∧ (s.data.toList.take k).all digB = true ∧ 0 ≤ v ∧ v ≤ 99 ∧ (k = 0 → v = 0) ∧ (k = 1 → v ≤ 9)) (fun _ i' => s.size - (intOf i').toNat)
    case atStart => exact ⟨0, 0, Nat.zero_le _, rfl, rfl, rfl, rfl, by omega, by omega, fun _ => rfl, fun h => absurd h (by omega)⟩
    case round =>
      obtain ⟨k, v, hk, rfl, rfl, hv, ha, v0, v1, v2, v3⟩ := hrel
      have HV := Lib.hid hv
      have HA := Lib.hid ha
      clear hv ha
      by_cases hlt : k < s.size
      · have v9 : v ≤ 9 := by
          rcases Nat.eq_zero_or_pos k with h | h
          · have := v2 h; omega
          · exact v3 (by omega)
        have V2 := Lib.hid v2
        clear v2 v3 v1
        by_cases q1 : 48 ≤ (s[k].toNat : Int)
        · by_cases q2 : (s[k].toNat : Int) ≤ 57
          · have hd : digB s[k] = true := by simp [digB]; omega
            have Hd := Lib.hid hd
            clear hd
            go_wp2_with fail
            refine ⟨⟨k + 1, _, by omega, rfl, by push_cast; rfl, ?_, dig_snoc s k hlt HA.out Hd.out, by omega, by omega, fun h => absurd h (by omega), fun h => ?_⟩, ?_⟩
            · rw [decV_snoc s k hlt, ← HV.out]
            · have := V2.out (by omega); omega
            · simp [intOf]; omega
          · have HO := Lib.hid (decF_bad s k hlt (by simp [digB]; omega))
            go_wp2_with fail
            go_ret
            exact ⟨by rw [HO.out]; rfl, rfl⟩
        · have HO := Lib.hid (decF_bad s k hlt (by simp [digB]; omega))
          go_wp2_with fail
          go_ret
          exact ⟨by rw [HO.out]; rfl, rfl⟩
      · have hks : k = s.size := by omega
        have HO : Hid (decF s.data.toList = v) := Lib.hid (by
          have e : s.data.toList.take k = s.data.toList := List.take_of_length_le (by simp; omega)
          have a1 := HA.out
          have a2 := HV.out
          rw [e] at a1 a2
          rw [decF_all H1.out H2.out a1, a2])
        clear hks
        go_wp2_with fail
        go_ret
        exact ⟨by rw [HO.out]; rfl, rfl⟩

/-- A text cut at its blanks: one byte more. -/
def cutStep (ws : List ByteArray) (c : UInt8) : List ByteArray := if c.toNat = 32 then ws ++ [⟨#[]⟩] else ws.set (ws.length - 1) (ws.getD (ws.length - 1) ⟨#[]⟩ ++ ⟨#[c]⟩)

def cutF (l : List UInt8) : List ByteArray := l.foldl cutStep [⟨#[]⟩]

theorem cutF_snoc (s : ByteArray) (k : Nat) (h : k < s.size) : cutF (s.data.toList.take (k + 1)) = cutStep (cutF (s.data.toList.take k)) s[k] := by
  rw [take_snoc s k h]; simp [cutF]

def strs (ws : List ByteArray) : List Value := ws.map Value.string

theorem strs_len (ws : List ByteArray) : (strs ws).length = ws.length := by simp [strs]

theorem strs_at (ws : List ByteArray) (i : Nat) (h : i < ws.length) : (strs ws)[i]? = some (.string (ws.getD i ⟨#[]⟩)) := by
  simp [strs, List.getD_eq_getElem?_getD, List.getElem?_eq_getElem h]

theorem strs_set (ws : List ByteArray) (i : Nat) (x : ByteArray) : (strs ws).set i (.string x) = strs (ws.set i x) := by
  simp [strs, List.map_set]

theorem infoStr : (Tryd.prog.info? 9).map (fun i => (i.zero, i.size, i.bytes)) = some (some (.string ⟨#[]⟩), 1, 16) := by kernel_rfl

/-- A word is appended. -/
theorem wpList_append_str {ops : Array Oper} {rest : List Oper} {x : Oper} {a : Act} {Q : Exit → Act → World → Prop} (W : World) (hgd : x.guard = none) (s y : Operand)
    (ho : x.op = .call { callee := .builtin .append, args := #[s, y], argTypes := #[56, 56] })
    (B : Nat) (v : Value) (k : Nat) (xs : List Value) (hV : W.ownsRow B 9 1 v k xs) (hs : a.eval s = v) (tx : ByteArray)
    (hx : a.eval y = .slice (some ⟨W.heap.size, 0, none⟩) 1 1) (hk : k ≤ 1000) (hB : B ≤ W.heap.size)
    (h : ∀ g cap w1, w1.ownsRow B 9 1 (.slice (some ⟨g, 0, none⟩) (k + 1) cap) (k + 1) (xs ++ [.string tx]) → W.grownBy w1 v.ownBlock → (v.ownBlock = some g ∨ W.heap.size ≤ g) → g < w1.heap.size → wpList Tryd.prog ops Q rest (a.put x.dst (.slice (some ⟨g, 0, none⟩) (k + 1) cap)) w1) :
    wpList Tryd.prog ops Q (x :: rest) a (W.alloc (.cells #[.string tx] 9)) := by
  obtain ⟨i0, hi, hz0, hz1, hz2⟩ := info_parts infoStr
  have hg1 := World.grownBy_alloc W (.cells #[.string tx] 9) none
  have hV1 := hV.kept hg1 (by
    rcases hV.2 with ⟨e, _⟩ | ⟨g, cap, cur, e, _⟩
    · exact .inl (by rw [e]; rfl)
    · exact .inr (by rw [e]; simp [Value.ownBlock]))
  refine wpList_append_lies (W.alloc (.cells #[.string tx] 9)) hgd s y 56 ho B 9 i0 _ 1 16 Tryd.underlying56 hi hz0 hz1 hz2 rfl (by decide) v k xs hs hV1
    ⟨W.heap.size, 0, none⟩ 1 1 [.string tx] hx rfl (World.news_of_block (cs := #[.string tx]) (heap_alloc_new W _)) ?_ (by decide) (by unfold maxLen; omega) (by omega) (by simp; omega) (W.heap.size + 1) (by simp) ?_
  · intro u hu
    simp only [List.mem_cons, List.not_mem_nil, or_false] at hu
    rcases hu with rfl
    rfl
  · intro g cap w1 hown hgrow hat hlt
    refine h g cap w1 hown ⟨hgrow.os, hgrow.tape, hgrow.output, by have := hgrow.size; simp at this; omega, fun k hk hn => ?_⟩ (hat.imp id (fun e => by omega)) hlt
    exact (hgrow.block k (by simp; omega) hn).trans (heap_alloc_old W _ hk)

set_option maxHeartbeats 1600000 in
theorem l12Cut_any (s : ByteArray) (w : World) (hs : s.size ≤ 20) :
    Calls Tryd.prog 31 #[.string s, .int .u8 32] w fun e w' => ∃ g cap n, e = .returned (.slice (some ⟨g, 0, none⟩) n cap) ∧ n = (cutF s.data.toList).length ∧ 1 ≤ n ∧ n ≤ 21 ∧ (∀ i, ((cutF s.data.toList).getD i ⟨#[]⟩).size ≤ 20) ∧ g < w'.heap.size ∧ w'.ownsRow w.heap.size 9 1 (.slice (some ⟨g, 0, none⟩) n cap) n (strs (cutF s.data.toList)) ∧ Below w.heap.size w w' := by
  have hown := World.ownsRow_lit (base := w.heap.size) (e := 9) (size := 1) w #[.string ⟨#[]⟩] 1 (Nat.le_refl _) (by unfold maxLen; omega) rfl
  have HOW := Lib.hid hown
  have HB := Lib.hid ((Below.refl w.heap.size w).alloc (Nat.le_refl _) (.cells #[.string ⟨#[]⟩] 9))
  clear hown
  go_enter Tryd.func31, Tryd.ntmps31
  go_wp2_with fail
  go_loopw [5, 6] (fun out' i' wr => ∃ (k g cap n : Nat) (ws : List ByteArray), k ≤ s.size ∧ out' = .slice (some ⟨g, 0, none⟩) n cap ∧ i' = .int .i64 (k : Int) ∧ ws = cutF (s.data.toList.take k) ∧ ws.length = n ∧ 1 ≤ n ∧ n ≤ k + 1 ∧ (∀ x ∈ ws, x.size ≤ k) ∧ w.heap.size ≤ g ∧ g < wr.heap.size ∧ wr.ownsRow w.heap.size 9 1 (.slice (some ⟨g, 0, none⟩) n cap) n (strs ws) ∧ Below w.heap.size w wr) (fun _ i' _ => s.size - (intOf i').toNat)
  case atStart =>
    refine ⟨0, w.heap.size, 1, 1, [⟨#[]⟩], Nat.zero_le _, rfl, rfl, rfl, rfl, by omega, by omega, ?_, Nat.le_refl _, by simp, HOW.out, HB.out⟩
    intro x hx
    simp at hx
    subst hx
    exact Nat.le_refl _
  case round =>
    obtain ⟨k, g, cap, n, ws, hk, rfl, rfl, hws, hl, hn1, hn2, hsz, hg0, hg1, hown, hB⟩ := hrel
    have HWS := Lib.hid hws
    have HL := Lib.hid hl
    have HSZ := Lib.hid hsz
    have HO := Lib.hid hown
    have HBB := Lib.hid hB
    clear hws hl hsz hown hB
    by_cases hlt : k < s.size
    · by_cases hc : (s[k].toNat : Int) = 32
      · go_wp2_with (at_builtin; refine wpList_append_str _ rfl _ _ rfl w.heap.size _ n (strs ws) HO.out rfl ⟨#[]⟩ rfl (by omega) HBB.out.size ?_; intro g8 cap8 w8 hown8 hg8 hat8 hlt8)
        refine ⟨⟨k + 1, g8, cap8, n + 1, ws ++ [⟨#[]⟩], by omega, rfl, by push_cast; rfl, ?_, by simp [HL.out], by omega, by omega, ?_, ?_, hlt8, ?_, ?_⟩, ?_⟩
        · rw [cutF_snoc s k hlt, ← HWS.out]; unfold cutStep; rw [if_pos (by omega)]
        · intro x hx
          rcases List.mem_append.1 hx with h | h
          · have := HSZ.out x h; omega
          · simp at h; subst h; exact Nat.zero_le _
        · rcases hat8 with e | e
          · simp [Value.ownBlock] at e; omega
          · have := HBB.out.size; omega
        · have e : strs (ws ++ [⟨#[]⟩]) = strs ws ++ [.string ⟨#[]⟩] := by simp [strs]
          rw [e]; exact hown8
        · exact HBB.out.grown hg8 HBB.out.size (fun j e => by simp [Value.ownBlock] at e; omega)
        · simp [intOf]; omega
      · obtain ⟨m, rfl⟩ : ∃ m, n = m + 1 := ⟨n - 1, by omega⟩
        obtain ⟨t, ht⟩ : ∃ t, ws.getD m ⟨#[]⟩ = t := ⟨_, rfl⟩
        have hcell : wr.cell? ⟨g, m, none⟩ = some (.string t) := by
          rw [HO.out.cellAt m (by omega), strs_at ws m (by rw [HL.out]; omega), ht]
        have hfz : wr.frozen? ⟨g, m, none⟩ = false := HO.out.frozenAt m
        have hts : t.size ≤ 20 := by
          have hx : t ∈ ws := by
            rw [← ht, List.getD_eq_getElem?_getD, List.getElem?_eq_getElem (by rw [HL.out]; omega)]
            exact List.getElem_mem _
          have := HSZ.out t hx; omega
        have Ht := Lib.hid ht
        have hcv : (convert 22 9 (.slice (some ⟨wr.heap.size, 0, none⟩) 1 1)).run Tryd.prog (wr.alloc (.cells #[.int .u8 (s[k].toNat : Int)] 5)).drew = .ok (.string ⟨#[UInt8.ofNat (s[k].toNat : Int).toNat]⟩) (wr.alloc (.cells #[.int .u8 (s[k].toNat : Int)] 5)).drew := conv_one wr.drew (s[k].toNat : Int) (by omega) (by have := s[k].toNat_lt; omega)
        have q1 : IntKind.i64.wrap (m : Int) = (m : Int) := IntWalk.i64_in _ (by omega)
        have q0 : IntKind.i64.wrap (((m + 1 : Nat) : Int) - 1) = (m : Int) := by rw [IntWalk.i64_in _ (by omega)]; omega
        clear ht
        go_wp2_with fail
        go_region
        all_goals (
          go_wp2_with fail
          have hst := HO.out.stored m (.string (t ++ ⟨#[s[k]]⟩))
          rw [strs_set] at hst
          refine ⟨⟨k + 1, g, cap, m + 1, ws.set m (t ++ ⟨#[s[k]]⟩), by omega, rfl, by push_cast; rfl, ?_, by rw [List.length_set]; exact HL.out, by omega, by omega, ?_, hg0, ?_, ?_, ?_⟩, ?_⟩
          · rw [cutF_snoc s k hlt, ← HWS.out]; unfold cutStep; rw [if_neg (by omega), HL.out, Nat.add_sub_cancel, Ht.out]
          · intro x hx
            rcases List.mem_or_eq_of_mem_set hx with h | h
            · have := HSZ.out x h; omega
            · subst h
              rw [ByteArray.size_append]
              have hx2 : t ∈ ws := by
                rw [← Ht.out, List.getD_eq_getElem?_getD, List.getElem?_eq_getElem (by rw [HL.out]; omega)]
                exact List.getElem_mem _
              have := HSZ.out t hx2
              show t.size + 1 ≤ _
              omega
          · simp [World.setCell]; omega
          · simpa using (hst.1.alloc (.cells #[.int .u8 (s[k].toNat : Int)] 5)).drew
          · have hb := Below.drew ((HBB.out.setCell (p := ⟨g, m, none⟩) hg0 (.string (t ++ ⟨#[s[k]]⟩))).alloc (by simpa [World.setCell] using HBB.out.size) (.cells #[.int .u8 (s[k].toNat : Int)] 5))
            simpa using hb
          · simp [intOf]; omega)
    · have hks : k = s.size := by omega
      have hE : cutF s.data.toList = ws := by
        have e : s.data.toList.take k = s.data.toList := List.take_of_length_le (by simp; omega)
        rw [HWS.out, e]
      have HE := Lib.hid hE
      have HZ : Hid (∀ i, (ws.getD i ⟨#[]⟩).size ≤ 20) := Lib.hid (fun i => by
        by_cases hi : i < ws.length
        · rw [List.getD_eq_getElem?_getD, List.getElem?_eq_getElem hi]
          have := HSZ.out _ (List.getElem_mem hi)
          show (ws[i]).size ≤ 20
          omega
        · rw [List.getD_eq_getElem?_getD, List.getElem?_eq_none (by omega)]; exact Nat.zero_le _)
      clear hks hE
      go_wp2_with fail
      go_ret
      exact ⟨g, cap, n, rfl, by rw [HE.out, HL.out], hn1, by omega, by rw [HE.out]; exact HZ.out, hg1, by rw [HE.out]; exact HO.out, HBB.out⟩

set_option maxHeartbeats 800000 in
theorem l12Word_any (B g cap n k : Nat) (ws : List ByteArray) (w : World) (hown : w.ownsRow B 9 1 (.slice (some ⟨g, 0, none⟩) n cap) n (strs ws)) (hl : ws.length = n) (hn : n ≤ 21) (hk : k ≤ 3) :
    Calls Tryd.prog 32 #[.slice (some ⟨g, 0, none⟩) n cap, .int .i64 (k : Int)] w fun e w' => e = .returned (.string (ws.getD k ⟨#[]⟩)) ∧ w' = w := by
  by_cases h : k < n
  · have hc := hown.cellAt k (by omega)
    rw [strs_at ws k (by omega)] at hc
    clear hown
    generalize ws.getD k ⟨#[]⟩ = t at *
    go_enter Tryd.func32, Tryd.ntmps32
    go_wp2_with fail
    go_ret
    exact ⟨rfl, rfl⟩
  · have HO : Hid (ws.getD k ⟨#[]⟩ = ⟨#[]⟩) := Lib.hid (by rw [List.getD_eq_getElem?_getD, List.getElem?_eq_none (by omega)]; rfl)
    clear hown
    go_enter Tryd.func32, Tryd.ntmps32
    go_wp2_with fail
    go_ret
    exact ⟨by rw [HO.out]; rfl, rfl⟩

end Go.Proofs.YtplicodloanljaaDoor
