/- What the model's VolText answers. -/
import Derived.Test.YtgogokahpmljbaaVol
namespace Go.Proofs.Ytgogokahpmljbaa
open Go.RowKit
set_option linter.unusedVariables false
set_option maxRecDepth 100000

/-- What is told of a block. -/
def pieceAt (xs : List Sl) (b : Int) : ByteArray := if (b == 0) = true then ⟨#[45]⟩ else if ((nth xs (b - 1).toNat).uses == 0) = true then ⟨#[45]⟩ else (nth xs (b - 1).toNat).text

def textTo (nm : ByteArray) (xs : List Sl) (bs : List Int) : Nat → ByteArray
  | 0 => nm
  | k + 1 => textTo nm xs bs k ++ ⟨#[32]⟩ ++ pieceAt xs (bth bs k)

/-- VolText. -/
def textF (v : Vo) (xs : List Sl) : ByteArray := if (volB v && storeB xs) = true then textTo v.name xs v.blocks v.blocks.length else ⟨#[]⟩

theorem piece_size {xs : List Sl} (hs : storeB xs = true) (b : Int) (hb : b ≤ 8) : (pieceAt xs b).size ≤ 4 := by
  unfold pieceAt
  split
  · decide
  · split
    · decide
    · by_cases h : (b - 1).toNat < 8
      · have hok := storeB_ok hs (b - 1).toNat h
        simp only [okB, Bool.and_eq_true] at hok
        have := tokB_len hok.1.1
        simpa using this
      · omega

theorem nameB_size (s : ByteArray) (h : nameB s.data.toList = true) : s.size = 1 := by
  by_cases h1 : s.size = 1
  · exact h1
  · rw [nameB_other s h1] at h; cases h

theorem textTo_size {nm : ByteArray} {xs : List Sl} {bs : List Int} (hs : storeB xs = true) (hn : nm.size = 1) (hb : ∀ b ∈ bs, 0 ≤ b ∧ b ≤ 8) : ∀ k, k ≤ bs.length → (textTo nm xs bs k).size ≤ 1 + 5 * k
  | 0, _ => by simp [textTo, hn]
  | k + 1, h => by
    have h1 := textTo_size (nm := nm) hs hn hb k (by omega)
    have hm : bth bs k ∈ bs := by rw [bth_get _ _ (by omega)]; exact List.getElem_mem _
    have h2 := piece_size hs (bth bs k) (hb _ hm).2
    have e : (⟨#[32]⟩ : ByteArray).size = 1 := rfl
    simp only [textTo, ByteArray.size_append, e]; omega

set_option maxHeartbeats 1600000 in
theorem volTextS_any (nm : ByteArray) (a : Option Addr) (n c : Nat) (bs : List Int) (v : Value) (xs : List Sl) (w : World) (hs : nm.size ≤ maxLen) (hx : Ints w a bs) (hn : bs.length = n) (hn1 : n ≤ 2000000) (hv : Slv w v xs) (ht : Fits xs) :
    Calls Try.prog 15 #[.agg #[.string nm, .slice a n c], v] w fun e w' => e = .returned (.string (textF ⟨nm, bs⟩ xs)) ∧ Below w.heap.size w w' := by
  have hb0 : Below w.heap.size w (w.alloc (.cells #[.string nm, .slice a n c] 25)) := (Below.refl _ _).alloc (Nat.le_refl _) _
  have HO := Lib.hid (volOkS_any nm a n c bs (w.alloc (.cells #[.string nm, .slice a n c] 25)) hs (ints_below hx hb0 (Nat.le_refl _)) hn hn1)
  have HST := Lib.hid (fun W (hb : Below w.heap.size w W) => storeOkS_v v xs W (hv.below hb (Nat.le_refl _)) ht)
  have Hu : Hid (textF ⟨nm, bs⟩ xs = if (volB ⟨nm, bs⟩ && storeB xs) = true then textTo nm xs bs bs.length else ⟨#[]⟩) := Lib.hid rfl
  have HB0 := Lib.hid hb0
  have bel : ∀ w1, Below (w.heap.size + 1) (w.alloc (.cells #[.string nm, .slice a n c] 25)) w1 → Below w.heap.size w w1 := fun w1 hb => HB0.out.trans (hb.mono (by omega))
  have HBL := Lib.hid bel
  have hcell : ∀ w1, Below (w.heap.size + 1) (w.alloc (.cells #[.string nm, .slice a n c] 25)) w1 → w1.cell? ⟨w.heap.size, 0, none⟩ = some (.string nm) ∧ w1.cell? ⟨w.heap.size, 1, none⟩ = some (.slice a n c) := fun w1 hb => by
    have h := heap_alloc_new w (.cells #[.string nm, .slice a n c] 25)
    exact ⟨(hb.cell (p := ⟨w.heap.size, 0, none⟩) (by simp)).trans (by rw [cell_of_row _ _ _ _ _ _ h]; rfl), (hb.cell (p := ⟨w.heap.size, 1, none⟩) (by simp)).trans (by rw [cell_of_row _ _ _ _ _ _ h]; rfl)⟩
  have HC := Lib.hid hcell
  clear bel hcell hb0
  cases hq : volB ⟨nm, bs⟩
  · rw [hq] at HO
    have HR : Hid (textF ⟨nm, bs⟩ xs = ⟨#[]⟩) := Lib.hid (by rw [Hu.out, hq]; rfl)
    clear hx hn hv hq Hu
    go_enter Try.func15, Try.ntmps15
    go_wp2_with fail
    refine HO.out.mono ?_
    rintro e w1 ⟨rfl, hb1⟩
    have hB := HBL.out w1 (by simpa using hb1)
    go_wp2_with fail
    go_ret
    exact ⟨by rw [HR.out]; rfl, hB⟩
  · rw [hq] at HO
    cases hsb : storeB xs
    · rw [hsb] at HST
      have HR : Hid (textF ⟨nm, bs⟩ xs = ⟨#[]⟩) := Lib.hid (by rw [Hu.out, hsb]; simp)
      clear hx hn hv hq hsb Hu
      go_enter Try.func15, Try.ntmps15
      go_wp2_with fail
      refine HO.out.mono ?_
      rintro e w1 ⟨rfl, hb1⟩
      have hB := HBL.out w1 (by simpa using hb1)
      have HS1 := Lib.hid (HST.out w1 hB)
      go_wp2_with fail
      refine HS1.out.mono ?_
      rintro e w2 ⟨rfl, hb2⟩
      have hB2 := hB.trans (hb2.mono hB.size)
      go_wp2_with fail
      go_ret
      exact ⟨by rw [HR.out]; rfl, hB2⟩
    · rw [hsb] at HST
      have HR : Hid (textF ⟨nm, bs⟩ xs = textTo nm xs bs n) := Lib.hid (by rw [Hu.out, hq, hsb, hn]; rfl)
      obtain ⟨v1, v2, v3, v4⟩ := (volB_iff _).1 hq
      simp only at v1 v2 v3 v4
      have hlen := storeB_len hsb
      have HZ := Lib.hid (fun k (hk : k ≤ n) => textTo_size (nm := nm) hsb (nameB_size nm v2) v1 k (by omega))
      have HPS := Lib.hid (fun b (hb : b ≤ (8 : Int)) => piece_size hsb b hb)
      have HV1 := Lib.hid v1
      have hn6 : n ≤ 6 := by omega
      obtain ⟨av, nv, cv, rfl, hnv, hnv1, hsv⟩ := hv
      obtain rfl : nv = 8 := by omega
      obtain ⟨gs, os, rfl, hsl⟩ := hsv.some_of hsb
      have hgs := hsl.lt (by omega)
      have HSL := Lib.hid (fun W (hb : Below w.heap.size w W) => hsl.below hb hgs)
      have HX := Lib.hid (fun W (hb : Below w.heap.size w W) => ints_below hx hb (Nat.le_refl _))
      have Hn := Lib.hid hn
      have Hlen := Lib.hid hlen
      clear hx hn hq hsb Hu v1 v2 v3 v4 hlen hnv hnv1 hsv hsl
      go_enter Try.func15, Try.ntmps15
      go_wp2_with fail
      refine HO.out.mono ?_
      rintro e w1 ⟨rfl, hb1⟩
      have hB := HBL.out w1 (by simpa using hb1)
      have HB1 := Lib.hid hb1
      have HS1 := Lib.hid (HST.out w1 hB)
      clear hb1
      go_wp2_with fail
      refine HS1.out.mono ?_
      rintro e w2 ⟨rfl, hb2⟩
      have hB2 := hB.trans (hb2.mono hB.size)
      have hbb : Below (w.heap.size + 1) (w.alloc (.cells #[.string nm, .slice a n c] 25)) w2 := by
        have h1 := HB1.out
        simp only [World.size_alloc] at h1
        have h2 := h1.size
        simp at h2
        exact h1.trans (hb2.mono (by omega))
      obtain ⟨hc0, hc1⟩ := HC.out w2 hbb
      have HB2 := Lib.hid hB2
      clear hb2 hB hB2 hbb
      go_wp2_with fail
      go_loop [5, 6] (fun t i => ∃ k : Nat, k ≤ n ∧ i = .int .i64 (k : Int) ∧ t = .string (textTo nm xs bs k)) (fun _ i => n - (intOf i).toNat)
      case atStart => exact ⟨0, by omega, rfl, rfl⟩
      case round =>
        obtain ⟨k, hk, rfl, rfl⟩ := hrel
        have hz := HZ.out k hk
        by_cases hlt : k < n
        · obtain ⟨g, off, rfl, hi⟩ := ints_at (HX.out w2 HB2.out) k (by rw [Hn.out]; exact hlt)
          have hc := hi k (by rw [Hn.out]; exact hlt)
          have hm : bth bs k ∈ bs := by rw [bth_get _ _ (by rw [Hn.out]; exact hlt)]; exact List.getElem_mem _
          obtain ⟨hb0, hb8⟩ := HV1.out _ hm
          have Hstep : Hid (textTo nm xs bs (k + 1) = textTo nm xs bs k ++ ⟨#[32]⟩ ++ pieceAt xs (bth bs k)) := Lib.hid rfl
          have Hp : Hid (pieceAt xs (bth bs k) = if (bth bs k == 0) = true then ⟨#[45]⟩ else if ((nth xs (bth bs k - 1).toNat).uses == 0) = true then ⟨#[45]⟩ else (nth xs (bth bs k - 1).toNat).text) := Lib.hid rfl
          have hps := HPS.out _ hb8
          obtain ⟨b, hb⟩ : ∃ b, bth bs k = b := ⟨_, rfl⟩
          rw [hb] at hc hb0 hb8 Hstep Hp hps
          obtain ⟨T, hT⟩ : ∃ T, textTo nm xs bs k = T := ⟨_, rfl⟩
          rw [hT] at hz Hstep
          rw [hT]
          clear hb hi hm hT
          by_cases h0 : b = 0
          · subst h0
            have HS : Hid (textTo nm xs bs (k + 1) = T ++ ⟨#[32]⟩ ++ ⟨#[45]⟩) := Lib.hid (by rw [Hstep.out, Hp.out]; rfl)
            clear Hstep Hp
            go_wp2_with fail
            go_round
            case rel => exact ⟨k + 1, by omega, by go_num, by rw [HS.out]⟩
            case measure => simp [intOf]; omega
          · obtain ⟨j, rfl⟩ : ∃ j : Nat, b = (j : Int) + 1 := ⟨(b - 1).toNat, by omega⟩
            have hj : j < 8 := by omega
            obtain ⟨hst, hsu⟩ := (HSL.out w2 HB2.out) j (by rw [Hlen.out]; exact hj)
            have d0 : ((j : Int) + 1 == 0) = false := by simp; omega
            have Hp2 : Hid (pieceAt xs ((j : Int) + 1) = if ((nth xs j).uses == 0) = true then ⟨#[45]⟩ else (nth xs j).text) := Lib.hid (by
              rw [Hp.out, d0, show ((j : Int) + 1 - 1).toNat = j from by omega]; rfl)
            clear Hp h0
            obtain ⟨x, hx⟩ : ∃ x, nth xs j = x := ⟨_, rfl⟩
            rw [hx] at hst hsu Hp2
            clear hx
            obtain ⟨t, u⟩ := x
            simp only at hst hsu Hp2
            cases hu : (u == 0)
            · have HE : Hid (pieceAt xs ((j : Int) + 1) = t) := Lib.hid (by rw [Hp2.out, hu]; rfl)
              rw [HE.out] at hps
              have HS : Hid (textTo nm xs bs (k + 1) = T ++ ⟨#[32]⟩ ++ t) := Lib.hid (by rw [Hstep.out, HE.out])
              clear Hstep Hp2
              go_wp2_with fail
              go_round
              case rel => exact ⟨k + 1, by omega, by go_num, by rw [HS.out]⟩
              case measure => simp [intOf]; omega
            · have HS : Hid (textTo nm xs bs (k + 1) = T ++ ⟨#[32]⟩ ++ ⟨#[45]⟩) := Lib.hid (by rw [Hstep.out, Hp2.out, hu]; rfl)
              clear Hstep Hp2
              go_wp2_with fail
              go_round
              case rel => exact ⟨k + 1, by omega, by go_num, by rw [HS.out]⟩
              case measure => simp [intOf]; omega
        · obtain rfl : k = n := by omega
          go_wp2_with fail
          go_ret
          exact ⟨by rw [HR.out]; rfl, HB2.out⟩

end Go.Proofs.Ytgogokahpmljbaa
