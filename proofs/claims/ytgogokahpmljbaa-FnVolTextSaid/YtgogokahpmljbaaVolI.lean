/- What the program's VolOk, VolUses and VolText answer. -/
import Derived.Test.YtgogokahpmljbaaVolBlocks
import Derived.Test.YtgogokahpmljbaaStoreV
namespace Go.Proofs.Ytgogokahpmljbaa
open Go.RowKit
set_option linter.unusedVariables false
set_option maxRecDepth 100000

/-- How many blocks a list has, at most f. -/
def lenL (w : World) : Nat → Option Addr → Nat
  | 0, _ => 0
  | _ + 1, none => 0
  | f + 1, some a => 1 + lenL w f (match w.cell? ⟨a.block, 1, none⟩ with
    | some (.pointer q) => q
    | _ => none)

theorem lenL_eq (w : World) (m : Nat) : ∀ (bs : List Int) (f : Nat) (a : Option Addr), bs.length ≤ f → Lst m w a bs → lenL w f a = bs.length
  | [], 0, _, _, _ => rfl
  | [], _ + 1, a, _, h => by
    have : a = none := h
    subst this; rfl
  | b :: r, 0, _, hf, _ => by simp at hf
  | b :: r, f + 1, a, hf, h => by
    obtain ⟨g, a', rfl, _, _, h1, hr⟩ := h
    have := lenL_eq w m r f a' (by simp at hf; omega) hr
    simp only [lenL, h1, this, List.length_cons]
    omega

theorem drop_blk (bs : List Int) (k : Nat) (hk : k < bs.length) : bs.drop k = bth bs k :: bs.drop (k + 1) := by
  rw [bth_get _ _ hk]; exact List.drop_eq_getElem_cons hk

def leftL (w : World) (n : Nat) : Value → Nat
  | .pointer q => lenL w n q
  | _ => 0

set_option maxHeartbeats 400000 in
theorem volOk_any (nm : ByteArray) (a : Option Addr) (n c : Nat) (bs : List Int) (w : World) (hs : nm.size ≤ maxLen) (hx : Ints w a bs) (hn : bs.length = n) (hn1 : n ≤ 2000000) :
    Calls Try.prog 12 #[.agg #[.string nm, .slice a n c]] w fun e w' => e = .returned (.bool (volB ⟨nm, bs⟩)) ∧ Below w.heap.size w w' := by
  have hb0 : Below w.heap.size w (w.alloc (.cells #[.string nm, .slice a n c] 25)) := (Below.refl _ _).alloc (Nat.le_refl _) _
  have HO := Lib.hid (blocksOf_any nm a n c bs (w.alloc (.cells #[.string nm, .slice a n c] 25)) (ints_below hx hb0 (Nat.le_refl _)) hn hn1)
  have HB0 := Lib.hid hb0
  clear hx hn hb0
  obtain ⟨q, hq⟩ : ∃ q, volB ⟨nm, bs⟩ = q := ⟨_, rfl⟩
  rw [hq] at HO ⊢
  clear hq
  go_enter Try.func12, Try.ntmps12
  go_wp2_with fail
  refine HO.out.mono ?_
  rintro e w1 ⟨p, rfl, _, hb1⟩
  have hB := HB0.out.trans (hb1.mono (by simp))
  go_wp2_with fail
  go_ret
  exact ⟨rfl, hB⟩

set_option maxHeartbeats 1600000 in
theorem volUses_any (nm : ByteArray) (a : Option Addr) (n c : Nat) (bs : List Int) (p : Int) (w : World) (hs : nm.size ≤ maxLen) (hx : Ints w a bs) (hn : bs.length = n) (hn1 : n ≤ 2000000) :
    Calls Try.prog 8 #[.agg #[.string nm, .slice a n c], .int .i64 p] w fun e w' => e = .returned (.int .i64 (usesF ⟨nm, bs⟩ p)) ∧ Below w.heap.size w w' := by
  have hb0 : Below w.heap.size w (w.alloc (.cells #[.string nm, .slice a n c] 25)) := (Below.refl _ _).alloc (Nat.le_refl _) _
  have HO := Lib.hid (blocksOf_any nm a n c bs (w.alloc (.cells #[.string nm, .slice a n c] 25)) (ints_below hx hb0 (Nat.le_refl _)) hn hn1)
  have HB0 := Lib.hid hb0
  have HN := Lib.hid hn
  have Hu : Hid (usesF ⟨nm, bs⟩ p = if (volB ⟨nm, bs⟩ && (decide (1 ≤ p) && decide (p ≤ 8))) = true then usesV ⟨nm, bs⟩ p else 0) := Lib.hid rfl
  clear hx hn hb0
  obtain ⟨q, hq⟩ : ∃ q, volB ⟨nm, bs⟩ = q := ⟨_, rfl⟩
  rw [hq] at HO Hu
  clear hq
  have HI := Lib.hid (fun W => placeOk_any p W)
  obtain ⟨r, hr⟩ : ∃ r, (decide (1 ≤ p) && decide (p ≤ 8)) = r := ⟨_, rfl⟩
  rw [hr] at HI Hu
  clear hr
  obtain ⟨u, hu⟩ : ∃ u, usesF ⟨nm, bs⟩ p = u := ⟨_, rfl⟩
  rw [hu] at Hu ⊢
  clear hu
  cases q
  · have HR : Hid (u = 0) := Lib.hid (by rw [Hu.out]; rfl)
    clear Hu
    go_enter Try.func8, Try.ntmps8
    go_wp2_with fail
    refine HO.out.mono ?_
    rintro e w1 ⟨t, rfl, _, hb1⟩
    have hB := HB0.out.trans (hb1.mono (by simp))
    clear hb1
    go_wp2_with fail
    go_ret
    exact ⟨ret_int (by rw [HR.out]), hB⟩
  · cases r
    · have HR : Hid (u = 0) := Lib.hid (by rw [Hu.out]; rfl)
      clear Hu
      go_enter Try.func8, Try.ntmps8
      go_wp2_with fail
      refine HO.out.mono ?_
      rintro e w1 ⟨t, rfl, _, hb1⟩
      have hB := HB0.out.trans (hb1.mono (by simp))
      clear hb1
      go_wp2_with (go_at_call 19; refine (HI.out _).mono ?_; rintro e w' ⟨rfl, h⟩; have h := h.symm; subst h)
      go_ret
      exact ⟨ret_int (by rw [HR.out]), hB⟩
    · have HR : Hid (u = cntI bs p n) := Lib.hid (by rw [Hu.out, ← cntI_uses nm bs p, HN.out]; rfl)
      clear Hu
      go_enter Try.func8, Try.ntmps8
      go_wp2_with fail
      refine HO.out.mono ?_
      rintro e w1 ⟨t, rfl, hl, hb1⟩
      have hB := HB0.out.trans (hb1.mono (by simp))
      have HL := Lib.hid (hl (by simp))
      clear hb1 hl
      go_wp2_with (go_at_call 19; refine (HI.out _).mono ?_; rintro e w' ⟨rfl, h⟩; have h := h.symm; subst h)
      go_loop [7, 8] (fun x b => ∃ (k : Nat) (q : Option Addr), k ≤ n ∧ b = .pointer q ∧ x = .int .i64 (cntI bs p k) ∧ Lst (w.heap.size + 1) w1 q (bs.drop k)) (fun _ b => leftL w1 n b)
      case atStart => exact ⟨0, t, by omega, rfl, rfl, by simpa using HL.out⟩
      case round =>
        obtain ⟨k, q, hk, rfl, rfl, hq⟩ := hrel
        by_cases hlt : k < n
        · have hr := cntI_range bs p k
          have Hstep : Hid (cntI bs p (k + 1) = cntI bs p k + if (bth bs k == p) = true then 1 else 0) := Lib.hid rfl
          have Hm : Hid (lenL w1 n q = n - k) := Lib.hid (by rw [lenL_eq w1 _ _ n q (by rw [List.length_drop, HN.out]; omega) hq, List.length_drop, HN.out])
          rw [drop_blk bs k (by rw [HN.out]; exact hlt)] at hq
          obtain ⟨g, q', rfl, _, h0, h1, hq'⟩ := hq
          have Hm2 : Hid (lenL w1 n q' = n - (k + 1)) := Lib.hid (by rw [lenL_eq w1 _ _ n q' (by rw [List.length_drop, HN.out]; omega) hq', List.length_drop, HN.out])
          have HQ := Lib.hid hq'
          obtain ⟨b, hb⟩ : ∃ b, bth bs k = b := ⟨_, rfl⟩
          rw [hb] at h0 Hstep
          clear hb hq'
          cases he : (b == p)
          · rw [he] at Hstep
            go_wp2_with fail
            go_round
            case rel => exact ⟨k + 1, q', by omega, rfl, by rw [Hstep.out]; simp, HQ.out⟩
            case measure => simp only [leftL, Hm.out, Hm2.out]; omega
          · rw [he] at Hstep
            go_wp2_with fail
            go_round
            case rel => exact ⟨k + 1, q', by omega, rfl, by rw [Hstep.out]; simp, HQ.out⟩
            case measure => simp only [leftL, Hm.out, Hm2.out]; omega
        · obtain rfl : k = n := by omega
          have hq0 : q = none := by
            rw [List.drop_of_length_le (by rw [HN.out]; omega)] at hq
            exact hq
          subst hq0
          clear hq
          go_wp2_with fail
          go_ret
          exact ⟨ret_int (by rw [HR.out]), hB⟩

set_option maxHeartbeats 800000 in
theorem blockText_any (g gs os cv : Nat) (b : Int) (xs : List Sl) (w : World) (hc : w.cell? ⟨g, 0, none⟩ = some (.int .i64 b)) (hb0 : 0 ≤ b) (hb8 : b ≤ 8) (hs : Slots w gs os xs) (hl : xs.length = 8) :
    Calls Try.prog 26 #[.pointer (some ⟨g, 0, none⟩), .slice (some ⟨gs, os, none⟩) 8 cv] w fun e w' => e = .returned (.string (pieceAt xs b)) ∧ w' = w := by
  have Hp : Hid (pieceAt xs b = if (b == 0) = true then ⟨#[45]⟩ else if ((nth xs (b - 1).toNat).uses == 0) = true then ⟨#[45]⟩ else (nth xs (b - 1).toNat).text) := Lib.hid rfl
  by_cases h0 : b = 0
  · subst h0
    have HS : Hid (pieceAt xs 0 = ⟨#[45]⟩) := Lib.hid (by rw [Hp.out]; rfl)
    clear Hp hs
    go_enter Try.func26, Try.ntmps26
    go_wp2_with fail
    go_ret
    exact ⟨by rw [HS.out]; rfl, rfl⟩
  · obtain ⟨j, rfl⟩ : ∃ j : Nat, b = (j : Int) + 1 := ⟨(b - 1).toNat, by omega⟩
    have hj : j < 8 := by omega
    obtain ⟨hst, hsu⟩ := hs j (by omega)
    have d0 : ((j : Int) + 1 == 0) = false := by simp; omega
    have Hp2 : Hid (pieceAt xs ((j : Int) + 1) = if ((nth xs j).uses == 0) = true then ⟨#[45]⟩ else (nth xs j).text) := Lib.hid (by
      rw [Hp.out, d0, show ((j : Int) + 1 - 1).toNat = j from by omega]; rfl)
    clear Hp h0 hs hl
    obtain ⟨x, hx⟩ : ∃ x, nth xs j = x := ⟨_, rfl⟩
    rw [hx] at hst hsu Hp2
    clear hx
    obtain ⟨t, u⟩ := x
    simp only at hst hsu Hp2
    cases hu : (u == 0)
    · have HE : Hid (pieceAt xs ((j : Int) + 1) = t) := Lib.hid (by rw [Hp2.out, hu]; rfl)
      clear Hp2
      go_enter Try.func26, Try.ntmps26
      go_wp2_with fail
      go_ret
      exact ⟨by rw [HE.out]; rfl, rfl⟩
    · have HE : Hid (pieceAt xs ((j : Int) + 1) = ⟨#[45]⟩) := Lib.hid (by rw [Hp2.out, hu]; rfl)
      clear Hp2
      go_enter Try.func26, Try.ntmps26
      go_wp2_with fail
      go_ret
      exact ⟨by rw [HE.out]; rfl, rfl⟩

set_option maxHeartbeats 1600000 in
theorem volText_any (nm : ByteArray) (a : Option Addr) (n c : Nat) (bs : List Int) (v : Value) (xs : List Sl) (w : World) (hs : nm.size ≤ maxLen) (hx : Ints w a bs) (hn : bs.length = n) (hn1 : n ≤ 2000000) (hv : Slv w v xs) (ht : Fits xs) :
    Calls Try.prog 14 #[.agg #[.string nm, .slice a n c], v] w fun e w' => e = .returned (.string (textF ⟨nm, bs⟩ xs)) ∧ Below w.heap.size w w' := by
  have hb0 : Below w.heap.size w (w.alloc (.cells #[.string nm, .slice a n c] 25)) := (Below.refl _ _).alloc (Nat.le_refl _) _
  have HO := Lib.hid (blocksOf_any nm a n c bs (w.alloc (.cells #[.string nm, .slice a n c] 25)) (ints_below hx hb0 (Nat.le_refl _)) hn hn1)
  have HST := Lib.hid (fun W (hb : Below w.heap.size w W) => storeOk_v v xs W (hv.below hb (Nat.le_refl _)) ht)
  have Hu : Hid (textF ⟨nm, bs⟩ xs = if (volB ⟨nm, bs⟩ && storeB xs) = true then textTo nm xs bs bs.length else ⟨#[]⟩) := Lib.hid rfl
  have HB0 := Lib.hid hb0
  have bel : ∀ w1, Below (w.heap.size + 1) (w.alloc (.cells #[.string nm, .slice a n c] 25)) w1 → Below w.heap.size w w1 := fun w1 hb => HB0.out.trans (hb.mono (by omega))
  have HBL := Lib.hid bel
  have hcell : ∀ w1, Below (w.heap.size + 1) (w.alloc (.cells #[.string nm, .slice a n c] 25)) w1 → w1.cell? ⟨w.heap.size, 0, none⟩ = some (.string nm) := fun w1 hb => by
    have h := heap_alloc_new w (.cells #[.string nm, .slice a n c] 25)
    exact (hb.cell (p := ⟨w.heap.size, 0, none⟩) (by simp)).trans (by rw [cell_of_row _ _ _ _ _ _ h]; rfl)
  have HC := Lib.hid hcell
  clear bel hcell hb0
  cases hq : volB ⟨nm, bs⟩
  · rw [hq] at HO
    have HR : Hid (textF ⟨nm, bs⟩ xs = ⟨#[]⟩) := Lib.hid (by rw [Hu.out, hq]; rfl)
    clear hx hn hv hq Hu
    go_enter Try.func14, Try.ntmps14
    go_wp2_with fail
    refine HO.out.mono ?_
    rintro e w1 ⟨t, rfl, _, hb1⟩
    have hB := HBL.out w1 (by simpa using hb1)
    clear hb1
    go_wp2_with fail
    go_ret
    exact ⟨by rw [HR.out]; rfl, hB⟩
  · rw [hq] at HO
    cases hsb : storeB xs
    · rw [hsb] at HST
      have HR : Hid (textF ⟨nm, bs⟩ xs = ⟨#[]⟩) := Lib.hid (by rw [Hu.out, hsb]; simp)
      clear hx hn hv hq hsb Hu
      go_enter Try.func14, Try.ntmps14
      go_wp2_with fail
      refine HO.out.mono ?_
      rintro e w1 ⟨t, rfl, _, hb1⟩
      have hB := HBL.out w1 (by simpa using hb1)
      clear hb1
      have HS1 := Lib.hid (HST.out w1 hB)
      have HB := Lib.hid hB
      go_wp2_with (go_at_call 25; refine HS1.out.mono ?_; rintro e w2 ⟨rfl, hb2⟩; have hB2 := HB.out.trans (hb2.mono HB.out.size))
      go_ret
      exact ⟨by rw [HR.out]; rfl, hB2⟩
    · rw [hsb] at HST
      have HR : Hid (textF ⟨nm, bs⟩ xs = textTo nm xs bs n) := Lib.hid (by rw [Hu.out, hq, hsb, hn]; rfl)
      obtain ⟨v1, v2, v3, v4⟩ := (volB_iff _).1 hq
      simp only at v1 v2 v3 v4
      have hlen := storeB_len hsb
      have HZ := Lib.hid (fun k (hk : k ≤ n) => textTo_size (nm := nm) hsb (nameB_size nm v2) v1 k (by omega))
      have HPS := Lib.hid (fun b (hb : b ≤ (8 : Int)) => piece_size hsb b hb)
      have HV1 := Lib.hid v1
      have hn6 : n ≤ 6 := by omega
      obtain ⟨av, nv, cv, rfl, hnv, hnv1, hsv⟩ := hv
      obtain rfl : nv = 8 := by omega
      obtain ⟨gs, os, rfl, hsl⟩ := hsv.some_of hsb
      have hgs := hsl.lt (by omega)
      have HSL := Lib.hid (fun W (hb : Below w.heap.size w W) => hsl.below hb hgs)
      have HN := Lib.hid hn
      have Hlen := Lib.hid hlen
      clear hx hn hq hsb Hu v1 v2 v3 v4 hlen hnv hnv1 hsv hsl
      go_enter Try.func14, Try.ntmps14
      go_wp2_with fail
      refine HO.out.mono ?_
      rintro e w1 ⟨t, rfl, hl, hb1⟩
      have hB := HBL.out w1 (by simpa using hb1)
      have HB1 := Lib.hid hb1
      have HS1 := Lib.hid (HST.out w1 hB)
      have HL := Lib.hid (hl (by simp))
      have HB := Lib.hid hB
      clear hb1 hl hB
      go_wp2_with (go_at_call 25; refine HS1.out.mono ?_; rintro e w2 ⟨rfl, hb2⟩; have HL2 := Lib.hid (Lst.below hb2 (Nat.le_refl _) HL.out); have hc0 := HC.out w2 (by
        have h1 := HB1.out
        simp only [World.size_alloc] at h1
        have h2 := h1.size
        simp at h2
        exact h1.trans (hb2.mono (by omega))); have HB2 := Lib.hid (HB.out.trans (hb2.mono HB.out.size)); clear hb2)
      have HTX := Lib.hid (fun g b hc hb0 hb8 => blockText_any g gs os cv b xs w2 hc hb0 hb8 (HSL.out w2 HB2.out) Hlen.out)
      go_loop [7, 8] (fun x b => ∃ (k : Nat) (q : Option Addr), k ≤ n ∧ b = .pointer q ∧ x = .string (textTo nm xs bs k) ∧ Lst (w.heap.size + 1) w2 q (bs.drop k)) (fun _ b => leftL w2 n b)
      case atStart => exact ⟨0, t, by omega, rfl, rfl, by simpa using HL2.out⟩
      case round =>
        obtain ⟨k, q, hk, rfl, rfl, hq⟩ := hrel
        have hz := HZ.out k hk
        by_cases hlt : k < n
        · have Hm : Hid (lenL w2 n q = n - k) := Lib.hid (by rw [lenL_eq w2 _ _ n q (by rw [List.length_drop, HN.out]; omega) hq, List.length_drop, HN.out])
          rw [drop_blk bs k (by rw [HN.out]; exact hlt)] at hq
          obtain ⟨g, q', rfl, _, h0, h1, hq'⟩ := hq
          have Hm2 : Hid (lenL w2 n q' = n - (k + 1)) := Lib.hid (by rw [lenL_eq w2 _ _ n q' (by rw [List.length_drop, HN.out]; omega) hq', List.length_drop, HN.out])
          have HQ := Lib.hid hq'
          have hm : bth bs k ∈ bs := by rw [bth_get _ _ (by rw [HN.out]; exact hlt)]; exact List.getElem_mem _
          obtain ⟨hb0, hb8⟩ := HV1.out _ hm
          have HS : Hid (textTo nm xs bs (k + 1) = textTo nm xs bs k ++ (⟨#[32]⟩ ++ pieceAt xs (bth bs k))) := Lib.hid (by rw [← ByteArray.append_assoc]; rfl)
          have hps := HPS.out _ hb8
          have HT := Lib.hid (HTX.out g _ h0 hb0 hb8)
          obtain ⟨T, hT⟩ : ∃ T, textTo nm xs bs k = T := ⟨_, rfl⟩
          rw [hT] at hz HS
          rw [hT]
          obtain ⟨X, hX⟩ : ∃ X, pieceAt xs (bth bs k) = X := ⟨_, rfl⟩
          rw [hX] at hps HS HT
          clear hq' hm hT hX
          go_wp2_with (go_at_call 26; refine HT.out.mono ?_; rintro e w' ⟨rfl, rfl⟩)
          go_round
          case rel => exact ⟨k + 1, q', by omega, rfl, by rw [HS.out], HQ.out⟩
          case measure => simp only [leftL, Hm.out, Hm2.out]; omega
        · obtain rfl : k = n := by omega
          have hq0 : q = none := by
            rw [List.drop_of_length_le (by rw [HN.out]; omega)] at hq
            exact hq
          subst hq0
          clear hq
          go_wp2_with fail
          go_ret
          exact ⟨by rw [HR.out]; rfl, HB2.out⟩

open Go.RowKit

theorem volOk_v (v : Value) (x : Vo) (w : World) (h : Vov w v x) (hs : x.name.size ≤ maxLen) :
    Calls Try.prog 12 #[v] w fun e w' => e = .returned (.bool (volB x)) ∧ Below w.heap.size w w' := by
  obtain ⟨a, n, c, rfl, hn, hn1, hx⟩ := h
  exact volOk_any x.name a n c x.blocks w hs hx hn hn1

theorem volUses_v (v : Value) (x : Vo) (p : Int) (w : World) (h : Vov w v x) (hs : x.name.size ≤ maxLen) :
    Calls Try.prog 8 #[v, .int .i64 p] w fun e w' => e = .returned (.int .i64 (usesF x p)) ∧ Below w.heap.size w w' := by
  obtain ⟨a, n, c, rfl, hn, hn1, hx⟩ := h
  exact volUses_any x.name a n c x.blocks p w hs hx hn hn1

theorem volText_v (v : Value) (x : Vo) (u : Value) (xs : List Sl) (w : World) (h : Vov w v x) (hs : x.name.size ≤ maxLen) (hv : Slv w u xs) (ht : Fits xs) :
    Calls Try.prog 14 #[v, u] w fun e w' => e = .returned (.string (textF x xs)) ∧ Below w.heap.size w w' := by
  obtain ⟨a, n, c, rfl, hn, hn1, hx⟩ := h
  exact volText_any x.name a n c x.blocks u xs w hs hx hn hn1 hv ht

end Go.Proofs.Ytgogokahpmljbaa
