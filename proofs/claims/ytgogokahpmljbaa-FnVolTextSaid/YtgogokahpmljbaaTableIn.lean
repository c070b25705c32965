/- What the program's tableOf answers: a right store as a table. -/
import Derived.Test.YtgogokahpmljbaaTableOf
namespace Go.Proofs.Ytgogokahpmljbaa
open Go.RowKit
set_option linter.unusedVariables false

/-- The table after k rounds. -/
def part (xs : List Sl) (k : Nat) : List Sl := xs.take k ++ List.replicate (8 - k) Sl.none

theorem part_len (xs : List Sl) (k : Nat) (hn : xs.length = 8) (hk : k ≤ 8) : (part xs k).length = 8 := by simp [part]; omega

theorem nth_part (xs : List Sl) (k i : Nat) (hn : xs.length = 8) (hk : k ≤ 8) : nth (part xs k) i = if i < k then nth xs i else Sl.none := by
  unfold nth part
  simp only [List.getD_eq_getElem?_getD]
  by_cases h : i < k
  · rw [if_pos h, List.getElem?_append_left (by simp; omega), List.getElem?_take_of_lt h]
  · rw [if_neg h, List.getElem?_append_right (by simp; omega)]
    by_cases h2 : i - (xs.take k).length < 8 - k
    · rw [List.getElem?_replicate, if_pos h2]; rfl
    · rw [List.getElem?_replicate, if_neg h2]; rfl

theorem part_zero (xs : List Sl) : part xs 0 = freshS := by simp [part, freshS]

theorem part_eight (xs : List Sl) (hn : xs.length = 8) : part xs 8 = xs := by simp [part, List.take_of_length_le (Nat.le_of_eq hn)]

theorem part_set (xs : List Sl) (k : Nat) (hn : xs.length = 8) (hk : k < 8) : (part xs k).set k (nth xs k) = part xs (k + 1) := by
  have l1 := part_len xs k hn (by omega)
  apply list_ext_nth
  · rw [List.length_set, l1, part_len xs (k + 1) hn (by omega)]
  · intro i hi
    rw [List.length_set, l1] at hi
    rw [nth_set _ _ _ _ (by omega), nth_part xs k i hn (by omega), nth_part xs (k + 1) i hn (by omega)]
    by_cases e : k = i
    · subst e; rw [if_pos rfl, if_pos (by omega)]
    · rw [if_neg e]
      by_cases h : i < k
      · rw [if_pos h, if_pos (by omega)]
      · rw [if_neg h, if_neg (by omega)]

/-- In a right slot the count is 0 just if the piece is empty. -/
theorem okB_use {x : Sl} (h : okB x = true) : decide (0 < x.uses) = !x.text.toList.isEmpty := by
  have h2 := okB_range h
  simp only [okB, Bool.and_eq_true, emptyB] at h
  have h3 := h.2
  cases he : x.text.toList.isEmpty
  · rw [he] at h3
    have : ¬ x.uses = 0 := by simpa using h3
    simp; omega
  · rw [he] at h3
    have : x.uses = 0 := by simpa using h3
    simp; omega

theorem hit_dup (x y : Sl) (h : okB y = true) : (decide (0 < y.uses) && y.text.toList == x.text.toList) = dupB x y := by
  unfold dupB emptyB
  rw [okB_use h]
  cases he : (y.text.toList == x.text.toList)
  · have : (x.text.toList == y.text.toList) = false := by
      cases h2 : (x.text.toList == y.text.toList)
      · rfl
      · have e1 : x.text.toList = y.text.toList := by simpa using h2
        rw [e1] at he; simp at he
    rw [this]; simp
  · have e1 : y.text.toList = x.text.toList := by simpa using he
    rw [e1]; simp

theorem row_ok {xs : List Sl} {k j : Nat} (h : (List.range k).all (rowB xs) = true) (hj : j < k) : okB (nth xs j) = true := by
  rw [List.all_eq_true] at h
  have := h j (List.mem_range.2 hj)
  simp only [rowB, Bool.and_eq_true] at this
  exact this.1

theorem hit_part (xs : List Sl) (k j : Nat) (hn : xs.length = 8) (hk : k ≤ 8) (h : (List.range k).all (rowB xs) = true) (x : Sl) :
    hitB (part xs k) x.text j = (decide (j < k) && dupB x (nth xs j)) := by
  unfold hitB
  rw [nth_part xs k j hn hk]
  by_cases hj : j < k
  · rw [if_pos hj, hit_dup _ _ (row_ok h hj)]; simp [hj]
  · rw [if_neg hj]; simp [hj, Sl.none]

theorem tfind_part_no (xs : List Sl) (k : Nat) (hn : xs.length = 8) (hk : k ≤ 8) (h : (List.range k).all (rowB xs) = true) (x : Sl)
    (hno : (List.range k).all (fun q => !dupB x (nth xs q)) = true) : tfind (part xs k) x.text = 0 := by
  refine tfind_none _ _ fun j _ => ?_
  rw [hit_part xs k j hn hk h]
  by_cases hj : j < k
  · rw [List.all_eq_true] at hno
    have := hno j (List.mem_range.2 hj)
    simp only [Bool.not_eq_true'] at this
    rw [this]; simp
  · simp [hj]

theorem tfind_pos (xs : List Sl) (t : ByteArray) (j : Nat) (hj : j < 8) (h : hitB xs t j = true) : tfind xs t ≠ 0 := by
  unfold tfind
  cases hf : (List.range 8).find? (hitB xs t) with
  | none =>
    rw [List.find?_range_eq_none] at hf
    have := hf j hj
    rw [h] at this; cases this
  | some i => simp only; omega

theorem tfind_part_yes (xs : List Sl) (k : Nat) (hn : xs.length = 8) (hk : k ≤ 8) (h : (List.range k).all (rowB xs) = true) (x : Sl)
    (hno : (List.range k).all (fun q => !dupB x (nth xs q)) = false) : tfind (part xs k) x.text ≠ 0 := by
  rw [List.all_eq_false] at hno
  obtain ⟨j, hj, hd⟩ := hno
  have hj := List.mem_range.1 hj
  refine tfind_pos _ _ j (by omega) ?_
  rw [hit_part xs k j hn hk h]
  have : dupB x (nth xs j) = true := by simpa using hd
  rw [this]; simp [hj]

theorem tfind_range (xs : List Sl) (t : ByteArray) : 0 ≤ tfind xs t ∧ tfind xs t ≤ 8 := by
  unfold tfind
  cases hf : (List.range 8).find? (hitB xs t) with
  | none => simp
  | some i =>
    rw [List.find?_range_eq_some] at hf
    have := List.mem_range.1 hf.2.1
    simp only; omega

theorem slotsW_alloc (w : World) (t : TypeId) (xs : List Sl) : SlotsW (w.alloc (.cells (flat xs).toArray t)) w.heap.size 0 xs := by
  have h := heap_alloc_new w (.cells (flat xs).toArray t)
  refine ⟨fun i hi => ?_, fun o => by unfold World.frozen?; rw [h]; simp⟩
  constructor
  · rw [cell_of_row _ _ _ _ _ _ h, List.getElem?_toArray, Nat.zero_add, flat_text xs i hi]
  · rw [cell_of_row _ _ _ _ _ _ h, List.getElem?_toArray, Nat.zero_add, flat_uses xs i hi]

theorem SlotsW.alloc {w : World} {g : Nat} {xs : List Sl} (h : SlotsW w g 0 xs) (hg : g < w.heap.size) (o : Obj) : SlotsW (w.alloc o) g 0 xs :=
  h.kept (World.grownBy_alloc w o none) hg (by simp)

theorem SlotsW.below {w w' : World} {g B : Nat} {xs : List Sl} (h : SlotsW w g 0 xs) (hb : Below B w w') (hg : g < B) : SlotsW w' g 0 xs :=
  ⟨h.1.below hb hg, fun o => (hb.frozen (p := ⟨g, o, none⟩) hg).trans (h.2 o)⟩

/-- What tableOf answers. -/
def TabOut (xs : List Sl) (w : World) (e : Ending) (w' : World) : Prop :=
  e = .returned (.tuple #[.agg (flat (if storeB xs = true then xs else freshS)).toArray, .bool (storeB xs)]) ∧ Below w.heap.size w w'

set_option maxRecDepth 100000 in
set_option maxHeartbeats 1600000 in
theorem tableOf_some (g off cap : Nat) (xs : List Sl) (w : World) (hx : Slots w g off xs) (hn : xs.length = 8) (ht : ∀ i, i < 8 → (nth xs i).text.size ≤ maxLen) :
    Calls Try.prog 31 #[.slice (some ⟨g, off, none⟩) 8 cap] w (TabOut xs w) := by
  have l1 := hx.lt (by omega)
  have Hx := Lib.hid hx
  have Hn := Lib.hid hn
  have Ht := Lib.hid ht
  clear hx hn ht
  go_enter Try.func31, Try.ntmps31
  go_wp2_with fail
  go_loopw [13] (fun i wr => ∃ k : Nat, k ≤ 8 ∧ i = .int .i64 (k : Int) ∧ (List.range k).all (rowB xs) = true ∧ SlotsW wr w.heap.size 0 freshS ∧ SlotsW wr (w.heap.size + 1) 0 (part xs k) ∧ w.heap.size + 1 < wr.heap.size ∧ Below w.heap.size w wr) (fun i _ => 8 - (intOf i).toNat)
  case atStart =>
    refine ⟨0, by omega, rfl, rfl, (slotsW_alloc w _ freshS).alloc (by simp) _, ?_, by simp, ((Below.refl _ _).alloc (Nat.le_refl _) _).alloc (by simp) _⟩
    rw [part_zero]
    have := slotsW_alloc (w.alloc (.cells (flat freshS).toArray 69)) 69 freshS
    simp only [World.size_alloc] at this
    exact this
  case round =>
    obtain ⟨k, hk, rfl, hall, hR, hT, hsz, hB⟩ := hrel
    have Hall := Lib.hid hall
    have HR := Lib.hid hR
    have HT := Lib.hid hT
    clear hall hR hT
    by_cases hlt : k < 8
    · obtain ⟨hc, hu⟩ := Hx.out k (by rw [Hn.out]; exact hlt)
      rw [← hB.cell (p := ⟨g, off + k * 2, none⟩) l1] at hc
      rw [← hB.cell (p := ⟨g, off + k * 2 + 1, none⟩) l1] at hu
      have Hset := Lib.hid (part_set xs k Hn.out hlt)
      have Hno := Lib.hid (storeB_no xs k (by rw [Hn.out]; exact hlt))
      have Hro := Lib.hid (rowB_ok xs k)
      have Hry := Lib.hid (rowB_yes xs k)
      have Hrn : Hid ((List.range k).all (fun q => !dupB (nth xs k) (nth xs q)) = false → rowB xs k = false) := Lib.hid (fun h => by simp only [rowB, h, Bool.and_false])
      have Hf0 := Lib.hid (tfind_part_no xs k Hn.out hk Hall.out (nth xs k))
      have Hf1 := Lib.hid (tfind_part_yes xs k Hn.out hk Hall.out (nth xs k))
      have hts := Ht.out k hlt
      obtain ⟨dup, hdup⟩ : ∃ b, (List.range k).all (fun q => !dupB (nth xs k) (nth xs q)) = b := ⟨_, rfl⟩
      rw [hdup] at Hrn Hf0 Hf1 Hry
      clear hdup
      obtain ⟨x, hxk⟩ : ∃ x, nth xs k = x := ⟨_, rfl⟩
      rw [hxk] at hc hu Hset Hro Hry Hf0 Hf1 hts
      clear hxk
      have HO := Lib.hid (fun W => slotOk_any x W hts)
      obtain ⟨ok, hok⟩ : ∃ b, okB x = b := ⟨_, rfl⟩
      rw [hok] at HO Hro Hry
      clear hok hts
      obtain ⟨t, u⟩ := x
      simp only at hc hu Hset Hf0 Hf1 HO
      have hpl := part_len xs k Hn.out hk
      have Hpl := Lib.hid hpl
      clear hpl
      cases ok
      · have Hs : Hid (storeB xs = false) := Lib.hid (Hno.out (Hro.out rfl))
        go_wp2_with fail
        go_at_call 39
        refine (HO.out _).mono ?_
        rintro e w3 ⟨rfl, hb3⟩
        have hR3 := ((HR.out.alloc (by omega) (.cells #[.string t, .int .i64 u] 57)).below hb3 (by simp; omega))
        have HR3 := Lib.hid hR3
        have hB3 : Below w.heap.size w w3 := (hB.alloc hB.size _).trans (hb3.mono (by simp; have := hB.size; omega))
        clear hR3
        go_wp2_with (refine wpList_store_tab rfl _ _ rfl _ freshS rfl rfl rfl freshS HR3.out rfl ?_; intro w2 hs2 hg2)
        have hlv := tab_loadVar hs2.1 rfl
        refine bodyPost_ret (v := .tuple #[.agg (flat freshS).toArray, .bool false]) (by simp [results, Try.f31, asAddr, hlv]) rfl ⟨?_, ?_⟩
        · rw [Hs.out]; rfl
        · exact hB3.grown hg2 hB3.size (fun k e => by cases e; exact Nat.le_refl _)
      · have HF := Lib.hid (fun W hW => tfind_any (w.heap.size + 1) (part xs k) t W hW Hpl.out)
        obtain ⟨f, hf⟩ : ∃ f, tfind (part xs k) t = f := ⟨_, rfl⟩
        rw [hf] at HF Hf0 Hf1
        clear hf
        have hRa := HR.out.alloc (by omega) (.cells #[.string t, .int .i64 u] 57)
        have hTa := HT.out.alloc hsz (.cells #[.string t, .int .i64 u] 57)
        have HRa := Lib.hid hRa
        have HTa := Lib.hid hTa
        have hBa := hB.alloc hB.size (.cells #[.string t, .int .i64 u] 57)
        have hca := heap_alloc_new wr (.cells #[.string t, .int .i64 u] 57)
        have hcs0 : (wr.alloc (.cells #[.string t, .int .i64 u] 57)).cell? ⟨wr.heap.size, 0, none⟩ = some (.string t) := by rw [cell_of_row _ _ _ _ _ _ hca]; rfl
        have hcs1 : (wr.alloc (.cells #[.string t, .int .i64 u] 57)).cell? ⟨wr.heap.size, 1, none⟩ = some (.int .i64 u) := by rw [cell_of_row _ _ _ _ _ _ hca]; rfl
        have HC0 := Lib.hid hcs0
        have HC1 := Lib.hid hcs1
        clear hRa hTa hca hcs0 hcs1
        cases dup
        · have Hs : Hid (storeB xs = false) := Lib.hid (Hno.out (Hrn.out rfl))
          have hf0 := Hf1.out rfl
          have hfb : (f != 0) = true := by simpa using hf0
          clear hf0
          go_wp2_with fail
          go_at_call 39
          refine (HO.out _).mono ?_
          rintro e w3 ⟨rfl, hb3⟩
          have hsz3 : wr.heap.size < w3.heap.size := by have := hb3.size; simp at this; omega
          have HR3 := Lib.hid (HRa.out.below hb3 (by simp; omega))
          have HT3 := Lib.hid (HTa.out.below hb3 (by simp; omega))
          have hd0 := (hb3.cell (p := ⟨wr.heap.size, 0, none⟩) (by simp)).trans HC0.out
          have hd1 := (hb3.cell (p := ⟨wr.heap.size, 1, none⟩) (by simp)).trans HC1.out
          have hB3 : Below w.heap.size w w3 := hBa.trans (hb3.mono (by simp; have := hB.size; omega))
          go_wp2_with fail
          go_at_call 40
          refine (HF.out _ HT3.out.1).mono ?_
          rintro e w4 ⟨rfl, hb4⟩
          have HR4 := Lib.hid (HR3.out.below hb4 (by omega))
          have hB4 : Below w.heap.size w w4 := hB3.trans (hb4.mono hB3.size)
          go_wp2_with (refine wpList_store_tab rfl _ _ rfl _ freshS rfl rfl rfl freshS HR4.out rfl ?_; intro w2 hs2 hg2)
          have hlv := tab_loadVar hs2.1 rfl
          refine bodyPost_ret (v := .tuple #[.agg (flat freshS).toArray, .bool false]) (by simp [results, Try.f31, asAddr, hlv]) rfl ⟨?_, ?_⟩
          · rw [Hs.out]; rfl
          · exact hB4.grown hg2 hB4.size (fun k e => by cases e; exact Nat.le_refl _)
        · have Hrow : Hid (rowB xs k = true) := Lib.hid (Hry.out rfl rfl)
          obtain rfl : f = 0 := Hf0.out rfl
          go_wp2_with fail
          go_at_call 39
          refine (HO.out _).mono ?_
          rintro e w3 ⟨rfl, hb3⟩
          have hsz3 : wr.heap.size < w3.heap.size := by have := hb3.size; simp at this; omega
          have HR3 := Lib.hid (HRa.out.below hb3 (by simp; omega))
          have HT3 := Lib.hid (HTa.out.below hb3 (by simp; omega))
          have hd0 := (hb3.cell (p := ⟨wr.heap.size, 0, none⟩) (by simp)).trans HC0.out
          have hd1 := (hb3.cell (p := ⟨wr.heap.size, 1, none⟩) (by simp)).trans HC1.out
          have hB3 : Below w.heap.size w w3 := hBa.trans (hb3.mono (by simp; have := hB.size; omega))
          go_wp2_with fail
          go_at_call 40
          refine (HF.out _ HT3.out.1).mono ?_
          rintro e w4 ⟨rfl, hb4⟩
          have HR4 := Lib.hid (HR3.out.below hb4 (by omega))
          have hT4 := HT3.out.below hb4 (by omega)
          have hd0 := (hb4.cell (p := ⟨wr.heap.size, 0, none⟩) hsz3).trans hd0
          have hd1 := (hb4.cell (p := ⟨wr.heap.size, 1, none⟩) hsz3).trans hd1
          have hB4 : Below w.heap.size w w4 := hB3.trans (hb4.mono hB3.size)
          have hsz4 : w.heap.size + 1 < w4.heap.size := by have := hb4.size; omega
          obtain ⟨ht0, ht1⟩ := hT4.1.at0 k (by rw [Hpl.out]; exact hlt)
          have hz0 := hT4.2 (k * 2)
          have hz1 := hT4.2 (k * 2 + 1)
          have hT5 := hT4.both k (by rw [Hpl.out]; exact hlt) t u
          rw [Hset.out] at hT5
          simp only [Nat.zero_add] at hT5
          have HT5 := Lib.hid hT5
          clear hT4 hT5
          go_wp2_with fail
          go_roundw
          case rel =>
            exact ⟨k + 1, by omega, by go_num, all_range_succ _ _ Hall.out Hrow.out, HR4.out.kept (grownBy_trans (grownBy_setCell _ _ _) (grownBy_setCell _ _ _)) (by omega) (by simp), HT5.out, by simpa [World.setCell] using hsz4, (hB4.setCell (by simp) _).setCell (by simp) _⟩
          case measure => simp [intOf]; omega
    · obtain rfl : k = 8 := by omega
      have hT8 := HT.out.1
      rw [part_eight xs Hn.out] at hT8
      have HT8 := Lib.hid hT8
      clear hT8
      go_wp2_with (first | (refine wpList_load_tab rfl _ rfl _ rfl xs HT8.out Hn.out ?_) | (refine wpList_store_tab rfl _ _ rfl _ xs rfl rfl Hn.out freshS HR.out rfl ?_; intro w2 hs2 hg2))
      have hlv := tab_loadVar hs2.1 Hn.out
      have Hs : Hid (storeB xs = true) := Lib.hid (by rw [storeB_all xs (by rw [Hn.out]; exact Hall.out), Hn.out]; rfl)
      refine bodyPost_ret (v := .tuple #[.agg (flat xs).toArray, .bool true]) (by simp [results, Try.f31, asAddr, hlv]) rfl ⟨?_, ?_⟩
      · rw [Hs.out]; rfl
      · exact hB.grown hg2 hB.size (fun k e => by cases e; exact Nat.le_refl _)

end Go.Proofs.Ytgogokahpmljbaa
