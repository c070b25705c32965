/- Slices of slots that lie in a range of blocks of the call's own; the laws' copies and sizes. -/
import Derived.Test.YtgajhknljnhfmaaSlotMarks
namespace Go.Proofs.Ytgajhknljnhfmaa
open Go.RowKit
set_option maxRecDepth 100000

/-- Whatever lies outside of the blocks from B to E (E left out) is as it was. -/
structure Keeps (B E : Nat) (w w' : World) : Prop where
  os : w'.os = w.os
  tape : w'.tape = w.tape
  output : w'.output = w.output
  size : w.heap.size ≤ w'.heap.size
  block : ∀ k, k < w.heap.size → (k < B ∨ E ≤ k) → w'.heap[k]? = w.heap[k]?

theorem Keeps.refl (B E : Nat) (w : World) : Keeps B E w w := ⟨rfl, rfl, rfl, Nat.le_refl _, fun _ _ _ => rfl⟩

theorem Keeps.trans {B E : Nat} {a b c : World} (h : Keeps B E a b) (k : Keeps B E b c) : Keeps B E a c :=
  ⟨k.os.trans h.os, k.tape.trans h.tape, k.output.trans h.output, Nat.le_trans h.size k.size, fun i hi hr => (k.block i (Nat.lt_of_lt_of_le hi h.size) hr).trans (h.block i hi hr)⟩

theorem Below.keeps {w w' : World} {B E : Nat} (h : Below w.heap.size w w') : Keeps B E w w' := ⟨h.os, h.tape, h.output, h.size, fun k hk _ => h.block k hk⟩

theorem grown_keeps {w w' : World} {g B E : Nat} (h : w.grownBy w' (some g)) (h1 : B ≤ g) (h2 : g < E) : Keeps B E w w' :=
  ⟨h.os, h.tape, h.output, h.size, fun k hk hr => h.block k hk (by intro e; injection e with e; omega)⟩

theorem Keeps.below {w0 w w' : World} {B E C : Nat} (h : Keeps B E w w') (hb : Below C w0 w) (hC : C ≤ B) (hC2 : C ≤ w.heap.size) : Below C w0 w' :=
  hb.trans ⟨h.os, h.tape, h.output, h.size, fun k hk => h.block k (by omega) (by omega)⟩

/-- A slice of slots in blocks from B to E, to be written. -/
def OwnSl (B E : Nat) (w : World) (v : Value) (xs : List Sl) : Prop :=
  (xs = [] ∧ ∃ a c, v = .slice a 0 c) ∨ ∃ g cap, v = .slice (some ⟨g, 0, none⟩) xs.length cap ∧ B ≤ g ∧ g < E ∧ E ≤ w.heap.size ∧ xs.length ≤ cap ∧ 0 < xs.length ∧ SlotsW w g 0 xs

theorem NewSl.own {B : Nat} {w : World} {v : Value} {xs : List Sl} (h : NewSl B w v xs) : OwnSl B w.heap.size w v xs := by
  rcases h with h | ⟨g, cap, rfl, h1, h2, h3, h4⟩
  · exact .inl h
  · by_cases hl : 0 < xs.length
    · exact .inr ⟨g, cap, rfl, h1, h2, Nat.le_refl _, h3, hl, h4⟩
    · have : xs = [] := List.eq_nil_of_length_eq_zero (by omega)
      subst this
      exact .inl ⟨rfl, _, _, rfl⟩

theorem OwnSl.slv {B E : Nat} {w : World} {v : Value} {xs : List Sl} (h : OwnSl B E w v xs) (hl : xs.length ≤ 2000000) : Slv w v xs := by
  rcases h with ⟨rfl, a, c, rfl⟩ | ⟨g, cap, rfl, _, _, _, _, _, hs⟩
  · exact ⟨a, 0, c, rfl, rfl, by omega, .inl rfl⟩
  · exact ⟨_, _, _, rfl, rfl, hl, .inr ⟨g, 0, rfl, hs.1⟩⟩

theorem OwnSl.keeps {B E B2 E2 : Nat} {w w' : World} {v : Value} {xs : List Sl} (h : OwnSl B E w v xs) (hk : Keeps B2 E2 w w') (hd : E ≤ B2 ∨ E2 ≤ B) : OwnSl B E w' v xs := by
  rcases h with h | ⟨g, cap, rfl, h1, h2, h3, h4, h5, h6⟩
  · exact .inl h
  · have hb := hk.block g (by omega) (by omega)
    refine .inr ⟨g, cap, rfl, h1, h2, Nat.le_trans h3 hk.size, h4, h5, fun i hi => ⟨?_, ?_⟩, fun o => ?_⟩
    · exact (World.cell?_of_block (w := w) (a := ⟨g, 0 + i * 2, none⟩) hb).trans (h6.1 i hi).1
    · exact (World.cell?_of_block (w := w) (a := ⟨g, 0 + i * 2 + 1, none⟩) hb).trans (h6.1 i hi).2
    · exact (World.frozen?_of_block (w := w) (a := ⟨g, o, none⟩) hb).trans (h6.2 o)

theorem OwnSl.below {B E C : Nat} {w w' : World} {v : Value} {xs : List Sl} (h : OwnSl B E w v xs) (hb : Below C w w') (hC : E ≤ C) : OwnSl B E w' v xs :=
  h.keeps (B2 := C) (E2 := w.heap.size) ⟨hb.os, hb.tape, hb.output, hb.size, fun k hk hr => by
    rcases hr with hr | hr
    · exact hb.block k hr
    · omega⟩ (.inl hC)

theorem OwnSl.wider {B E B' E' : Nat} {w : World} {v : Value} {xs : List Sl} (h : OwnSl B E w v xs) (h1 : B' ≤ B) (h2 : E ≤ E') (h3 : E' ≤ w.heap.size) : OwnSl B' E' w v xs := by
  rcases h with h | ⟨g, cap, rfl, g1, g2, g3, g4⟩
  · exact .inl h
  · exact .inr ⟨g, cap, rfl, by omega, by omega, h3, g4⟩

def Marks (k : Nat) (ys : List Sl) : Prop := ∀ i, i < ys.length → nth ys i = mark k i

set_option maxHeartbeats 400000 in
theorem markSlotS_any (B E k : Nat) (v : Value) (xs : List Sl) (w : World) (h : OwnSl B E w v xs) (hn1 : xs.length ≤ 2000000) (hk : k ≤ 1000000) :
    Calls Try.prog 52 #[v, .int .i64 (k : Int)] w fun e w' => e = .returned (.int .i64 ((k + 2 * xs.length : Nat) : Int)) ∧
      (∃ ys, OwnSl B E w' v ys ∧ ys.length = xs.length ∧ Marks k ys) ∧ Keeps B E w w' := by
  rcases h with ⟨rfl, a, c, rfl⟩ | ⟨g, cap, rfl, h1, h2, h3, h4, h5, h6⟩
  · go_enter Try.func52, Try.ntmps52
    go_wp2_with fail
    go_loop [1, 5] (fun k' i' => k' = .int .i64 (k : Int) ∧ i' = .int .i64 0) (fun _ _ => 0)
    case atStart => exact ⟨rfl, rfl⟩
    case round =>
      obtain ⟨rfl, rfl⟩ := hrel
      go_wp2_with fail
      go_ret
      exact ⟨rfl, ⟨[], .inl ⟨rfl, _, _, rfl⟩, rfl, fun i hi => by simp at hi⟩, Keeps.refl _ _ _⟩
  · refine (markSlotS_some g 0 xs.length cap k xs w h6 rfl h5 hn1 hk).mono ?_
    rintro e w' ⟨rfl, ⟨ys, hs, hl, hm⟩, hg⟩
    exact ⟨rfl, ⟨ys, .inr ⟨g, cap, by rw [hl], h1, h2, Nat.le_trans h3 hg.size, by rw [hl]; exact h4, by rw [hl]; exact h5, hs⟩, hl, fun i hi => hm i (by omega)⟩, grown_keeps hg h1 h2⟩

set_option maxHeartbeats 400000 in
theorem heldSlotS_any (B E k : Nat) (v : Value) (ys : List Sl) (w : World) (h : OwnSl B E w v ys) (hn1 : ys.length ≤ 2000000) (hk : k ≤ 1000000) (hm : Marks k ys) :
    Calls Try.prog 53 #[v, .int .i64 (k : Int)] w fun e w' => e = .returned (.int .i64 ((k + 2 * ys.length : Nat) : Int)) ∧ Below w.heap.size w w' := by
  rcases h with ⟨rfl, a, c, rfl⟩ | ⟨g, cap, rfl, h1, h2, h3, h4, h5, h6⟩
  · clear hm
    go_enter Try.func53, Try.ntmps53
    go_wp2_with fail
    go_loop [1, 5] (fun k' i' => k' = .int .i64 (k : Int) ∧ i' = .int .i64 0) (fun _ _ => 0)
    case atStart => exact ⟨rfl, rfl⟩
    case round =>
      obtain ⟨rfl, rfl⟩ := hrel
      go_wp2_with fail
      go_ret
      exact ⟨rfl, Below.refl _ _⟩
  · exact heldSlotS_some g 0 ys.length cap k ys w h6.1 rfl h5 hn1 hk (fun i hi => hm i hi)

set_option maxHeartbeats 400000 in
theorem toSlot_any (x : Sl) (w : World) :
    Calls Try.prog 84 #[.agg #[.string x.text, .int .i64 x.uses]] w fun e w' => e = .returned (.agg #[.string x.text, .int .i64 x.uses]) ∧ Below w.heap.size w w' := by
  obtain ⟨t, u⟩ := x
  simp only
  go_enter Try.func84, Try.ntmps84
  go_wp2_with fail
  refine bodyPost_ret (v := .agg #[.string t, .int .i64 u]) (by simp [results, Try.f84, go_sem]) rfl ⟨rfl, ?_⟩
  exact (((Below.refl _ _).alloc (Nat.le_refl _) _).alloc (by simp) _).alloc (by simp; omega) _

set_option maxHeartbeats 400000 in
theorem szSlot_any (x : Sl) (left : Int) (w : World) (h0 : 0 ≤ left) (h1 : left ≤ 2000000) (hs : x.text.size ≤ 9223372036854775807) :
    Calls Try.prog 83 #[.agg #[.string x.text, .int .i64 x.uses], .int .i64 left] w fun e w' => e = .returned (.int .i64 (if left - x.text.size < 0 then -1 else left - x.text.size)) ∧ Below w.heap.size w w' := by
  obtain ⟨t, u⟩ := x
  simp only at hs ⊢
  by_cases hl : left - t.size < 0
  · have hl2 : left < t.size := by omega
    rw [if_pos hl]
    go_enter Try.func83, Try.ntmps83
    go_wp2_with fail
    go_ret
    exact ⟨rfl, (Below.refl _ _).alloc (Nat.le_refl _) _⟩
  · rw [if_neg hl]
    go_enter Try.func83, Try.ntmps83
    go_wp2_with fail
    go_ret
    exact ⟨rfl, (Below.refl _ _).alloc (Nat.le_refl _) _⟩

set_option maxHeartbeats 800000 in
/-- The laws' size of slots: either it is too large, or there are at most 'left' slots, of at most 'left' letters each. -/
theorem szSlotS_some (g off n cap : Nat) (xs : List Sl) (left : Int) (w : World) (hx : Slots w g off xs) (hn : xs.length = n) (h00 : 0 < n) (hn1 : n ≤ 9223372036854775807) (h0 : 0 ≤ left) (h1 : left ≤ 1048576) (ht : ∀ i, i < n → (nth xs i).text.size ≤ 9223372036854775807) :
    Calls Try.prog 49 #[.slice (some ⟨g, off, none⟩) n cap, .int .i64 left] w fun e w' => ∃ r : Int, e = .returned (.int .i64 r) ∧ (r < 0 ∨ (0 ≤ r ∧ r ≤ left ∧ (n : Int) ≤ left ∧ ∀ i, i < n → ((nth xs i).text.size : Int) ≤ left)) ∧ Below w.heap.size w w' := by
  have Hx := Lib.hid hx
  have Hn := Lib.hid hn
  have Ht := Lib.hid ht
  have l1 := hx.lt (by omega)
  clear hx hn ht
  by_cases hl : left - n < 0
  · have hl2 : left < n := by omega
    go_enter Try.func49, Try.ntmps49
    go_wp2_with fail
    go_ret
    exact ⟨-1, rfl, .inl (by omega), Below.refl _ _⟩
  · go_enter Try.func49, Try.ntmps49
    go_wp2_with fail
    go_loopw [1, 5] (fun l' i wr => ∃ (k : Nat) (c : Int), k ≤ n ∧ i = .int .i64 (k : Int) ∧ l' = .int .i64 c ∧ 0 ≤ c ∧ c ≤ left ∧ (∀ i, i < k → ((nth xs i).text.size : Int) ≤ left) ∧ Below w.heap.size w wr) (fun _ i _ => n - (intOf i).toNat)
    case atStart => exact ⟨0, left - n, by omega, rfl, rfl, by omega, by omega, fun i hi => by omega, Below.refl _ _⟩
    case round =>
      obtain ⟨k, c, hk, rfl, rfl, hc0, hc1, hall, hB⟩ := hrel
      have Hall := Lib.hid hall
      clear hall
      by_cases hlt : k < n
      · obtain ⟨hc, hu⟩ := Hx.out k (by rw [Hn.out]; exact hlt)
        rw [← hB.cell (p := ⟨g, off + k * 2, none⟩) l1] at hc
        rw [← hB.cell (p := ⟨g, off + k * 2 + 1, none⟩) l1] at hu
        have hC := szSlot_any (nth xs k) c wr hc0 (by omega) (Ht.out k hlt)
        go_wp2_with fail
        refine hC.mono ?_
        rintro e w3 ⟨rfl, hb3⟩
        have hB3 := hB.trans (hb3.mono hB.size)
        clear hC
        by_cases hneg : c - (nth xs k).text.size < 0
        · rw [if_pos hneg]
          go_wp2_with fail
          go_ret
          exact ⟨-1, rfl, .inl (by omega), hB3⟩
        · rw [if_neg hneg]
          have Hneg : Hid (((nth xs k).text.size : Int) ≤ left) := Lib.hid (by omega)
          have hge : 0 ≤ c - ((nth xs k).text.size : Int) := by omega
          have hle : c - ((nth xs k).text.size : Int) ≤ left := by omega
          clear hneg hc hu
          generalize c - ((nth xs k).text.size : Int) = c2 at *
          go_wp2_with fail
          go_roundw
          case rel =>
            refine ⟨k + 1, c2, by omega, by go_num, rfl, hge, hle, fun i hi => ?_, hB3⟩
            by_cases e : i = k
            · subst e; exact Hneg.out
            · exact Hall.out i (by omega)
          case measure => simp [intOf]; omega
      · obtain rfl : k = n := by omega
        go_wp2_with fail
        go_ret
        exact ⟨c, rfl, .inr ⟨hc0, hc1, by omega, Hall.out⟩, hB⟩

theorem list_ext_nth (xs ys : List Sl) (hl : xs.length = ys.length) (h : ∀ i, i < xs.length → nth xs i = nth ys i) : xs = ys := by
  apply List.ext_getElem hl
  intro i h1 h2
  rw [← nth_get xs i h1, ← nth_get ys i h2]
  exact h i h1

theorem madeSlots (n : Nat) : (madeCells (Value.agg #[.string ⟨#[]⟩, .int .i64 0]).cells (n * 2)).toList = flat (List.replicate n Sl.none) := by
  apply List.ext_getElem?
  intro j
  have hc : (Value.agg #[.string ⟨#[]⟩, .int .i64 0]).cells = #[.string ⟨#[]⟩, .int .i64 0] := by kernel_rfl
  rw [hc]
  have hl : (List.replicate n Sl.none).length = n := List.length_replicate
  by_cases hj : j < n * 2
  · by_cases e : j % 2 = 0
    · obtain ⟨i, rfl⟩ : ∃ i, j = i * 2 := ⟨j / 2, by omega⟩
      rw [flat_text _ i (by rw [hl]; omega)]
      simp [madeCells, hj, nth, List.getD_eq_getElem?_getD, show i < n by omega, Sl.none]
    · obtain ⟨i, rfl⟩ : ∃ i, j = i * 2 + 1 := ⟨j / 2, by omega⟩
      rw [flat_uses _ i (by rw [hl]; omega)]
      have h2 : (i * 2 + 1) % 2 = 1 := by omega
      simp [madeCells, hj, nth, List.getD_eq_getElem?_getD, show i < n by omega, Sl.none, h2]
  · have hl2 : (flat (List.replicate n Sl.none)).length = n * 2 := by rw [flat_length, List.length_replicate]
    have hl3 : (madeCells #[.string ⟨#[]⟩, .int .i64 0] (n * 2)).toList.length = n * 2 := by rw [Array.length_toList, size_madeCells]
    rw [List.getElem?_eq_none (by omega), List.getElem?_eq_none (by omega)]

set_option maxHeartbeats 800000 in
theorem toSlotS_some (g off n cap : Nat) (xs : List Sl) (w : World) (hx : Slots w g off xs) (hn : xs.length = n) (h0 : 0 < n) (hn1 : n ≤ 2000000) :
    Calls Try.prog 50 #[.slice (some ⟨g, off, none⟩) n cap] w fun e w' => ∃ v, e = .returned v ∧ NewSl w.heap.size w' v xs ∧ Below w.heap.size w w' := by
  have Hx := Lib.hid hx
  have Hn := Lib.hid hn
  have l1 := hx.lt (by omega)
  clear hx hn
  obtain ⟨i0, hi, hz0, hz1, hz2⟩ := info_parts Try.infoSlot
  have hrun := run_make_full (P := Try.prog) w w.heap.size 26 35 i0 (.agg #[.string ⟨#[]⟩, .int .i64 0]) 2 Try.underlying26 hi hz0 hz1 .i64 .i64 n (by rw [hz2]; omega) (by unfold maxLen; omega) (Nat.le_refl _)
  obtain ⟨w2, hr, ho, hg⟩ := hrun
  rw [madeSlots n] at ho
  obtain ⟨g', cap', hv, hb', hlt', hcap', hs'⟩ := slots_of_own ho h0 (by simp)
  simp only [Value.slice.injEq, Option.some.injEq, Addr.mk.injEq, and_true, true_and] at hv
  obtain ⟨rfl, rfl⟩ := hv
  have Hs := Lib.hid hs'
  have Hg := Lib.hid hg
  have hB2 : Below w.heap.size w w2 := (Below.refl _ _).grown hg (Nat.le_refl _) (fun k e => by cases e)
  clear hi hz0 hz1 hz2 ho hs' hg
  go_enter Try.func50, Try.ntmps50
  go_wp2_with fail
  go_loopw [4] (fun i wr => ∃ k : Nat, k ≤ n ∧ i = .int .i64 (k : Int) ∧ (∃ ys, SlotsW wr w.heap.size 0 ys ∧ ys.length = n ∧ ∀ i, i < k → nth ys i = nth xs i) ∧ w.heap.size < wr.heap.size ∧ Below w.heap.size w wr) (fun i _ => n - (intOf i).toNat)
  case atStart => exact ⟨0, by omega, rfl, ⟨_, Hs.out, by simp, fun i hi => by omega⟩, hlt', hB2⟩
  case round =>
    obtain ⟨k, hk, rfl, ⟨ys, hs, hl, hm⟩, hsz, hB⟩ := hrel
    have HS := Lib.hid hs
    have HL := Lib.hid hl
    have HM := Lib.hid hm
    clear hs hl hm
    by_cases hlt : k < n
    · obtain ⟨hc, hu⟩ := Hx.out k (by rw [Hn.out]; exact hlt)
      rw [← hB.cell (p := ⟨g, off + k * 2, none⟩) l1] at hc
      rw [← hB.cell (p := ⟨g, off + k * 2 + 1, none⟩) l1] at hu
      have hC := toSlot_any (nth xs k) wr
      go_wp2_with fail
      refine hC.mono ?_
      rintro e w3 ⟨rfl, hb3⟩
      have hB3 := hB.trans (hb3.mono hB.size)
      have hs3 : SlotsW w3 w.heap.size 0 ys := ⟨HS.out.1.below hb3 hsz, fun o => (hb3.frozen (p := ⟨w.heap.size, o, none⟩) hsz).trans (HS.out.2 o)⟩
      obtain ⟨hd, hv⟩ := hs3.1 k (by rw [HL.out]; exact hlt)
      have hf := hs3.2 (0 + k * 2)
      have hfu := hs3.2 (0 + k * 2 + 1)
      have H2 := Lib.hid (hs3.both k (by rw [HL.out]; exact hlt) (nth xs k).text (nth xs k).uses)
      have hsz3 : w.heap.size < w3.heap.size := Nat.lt_of_lt_of_le hsz hb3.size
      simp only [Nat.zero_add] at hd hv hf hfu H2
      clear hC hs3 hc hu
      go_wp2_with fail
      go_roundw
      case rel =>
        refine ⟨k + 1, by omega, by go_num, ⟨_, H2.out, by rw [List.length_set]; exact HL.out, fun i hi => ?_⟩, by simpa [World.setCell] using hsz3, (hB3.setCell (Nat.le_refl _) _).setCell (Nat.le_refl _) _⟩
        rw [nth_set _ _ _ _ (by rw [HL.out]; exact hlt)]
        by_cases e : k = i
        · subst e; rw [if_pos rfl]
        · rw [if_neg e]; exact HM.out i (by omega)
      case measure => simp [intOf]; omega
    · obtain rfl : k = n := by omega
      have hxy : ys = xs := list_ext_nth ys xs (by rw [HL.out, Hn.out]) (fun i hi => HM.out i (by rw [HL.out] at hi; exact hi))
      have HX := Lib.hid hxy
      clear hxy
      go_wp2_with fail
      go_ret
      refine ⟨_, rfl, .inr ⟨w.heap.size, k, by rw [Hn.out]; rfl, Nat.le_refl _, hsz, by rw [Hn.out]; exact Nat.le_refl _, ?_⟩, hB⟩
      have := HS.out
      rwa [HX.out] at this

theorem toSlotS_any (a : Option Addr) (n cap : Nat) (xs : List Sl) (w : World) (hx : Sls w a xs) (hn : xs.length = n) (hn1 : n ≤ 2000000) :
    Calls Try.prog 50 #[.slice a n cap] w fun e w' => ∃ v, e = .returned v ∧ NewSl w.heap.size w' v xs ∧ Below w.heap.size w w' := by
  by_cases h0 : 0 < n
  · rcases hx with rfl | ⟨g, off, rfl, hx⟩
    · simp at hn; omega
    · exact toSlotS_some g off n cap xs w hx hn h0 hn1
  · obtain rfl : n = 0 := by omega
    obtain rfl : xs = [] := List.eq_nil_of_length_eq_zero hn
    clear hx hn
    obtain ⟨i0, hi, hz0, hz1, hz2⟩ := info_parts Try.infoSlot
    have hrun := run_make_full (P := Try.prog) w w.heap.size 26 35 i0 (.agg #[.string ⟨#[]⟩, .int .i64 0]) 2 Try.underlying26 hi hz0 hz1 .i64 .i64 0 (by rw [hz2]; omega) (by unfold maxLen; omega) (Nat.le_refl _)
    obtain ⟨w2, hr, ho, hg⟩ := hrun
    have hB2 : Below w.heap.size w w2 := (Below.refl _ _).grown hg (Nat.le_refl _) (fun k e => by cases e)
    have hr2 : Sem.run Try.prog (Instr.makeSlice 26 (.int .i64 0) (.int .i64 0)) w = .ok (.slice (some ⟨w.heap.size, 0, none⟩) 0 0) w2 := hr
    clear hi hz0 hz1 hz2 ho hg hr
    go_enter Try.func50, Try.ntmps50
    go_wp2_with fail
    go_loop [4] (fun i' => i' = .int .i64 0) (fun _ => 0)
    case atStart => rfl
    case round =>
      obtain rfl := hrel
      go_wp2_with fail
      go_ret
      exact ⟨_, rfl, .inl ⟨rfl, _, _, rfl⟩, hB2⟩

end Go.Proofs.Ytgajhknljnhfmaa
