/- What the draw of a store and a piece to be put answers. -/
import Derived.Test.YtgajhknljnhfmaaDrawStoreX
import Derived.Test.YtgajhknljnhfmaaStoreV
namespace Go.Proofs.Ytgajhknljnhfmaa
open Go.RowKit

theorem DSt.slv {B P : Nat} {w0 w : World} {g off n c : Nat} {xs : List Sl} (h : DSt B P w0 w g off xs) (hl : xs.length = n) (hn : n ≤ 8) : Slv w (.slice (some ⟨g, off, none⟩) n c) xs :=
  ⟨_, _, _, rfl, hl, by omega, .inr ⟨g, off, rfl, h.sl.1⟩⟩

theorem Bnd.fits {lo : Int} {xs : List Sl} (h : Bnd lo xs) : Fits xs := fun i hi => by have := (h i hi).1; unfold maxLen; omega

theorem DSt.drawn {B P : Nat} {w0 w w' : World} {g off : Nat} {xs : List Sl} (h : DSt B P w0 w g off xs) (hb : Below w.heap.size w w') : DSt B P w0 w' g off xs := by
  have hB := h.rd.lt
  refine ⟨h.rd.kept (fun q hq => hb.cell (by omega)) (hb.frozen (p := ⟨B, 1, none⟩) hB), h.lt, Nat.lt_of_lt_of_le h.gs hb.size, h.new, ⟨h.sl.1.below hb h.gs, fun o => (hb.frozen (p := ⟨g, o, none⟩) h.gs).trans (h.sl.2 o)⟩, ?_⟩
  exact ⟨hb.os.trans h.gr.os, hb.tape.trans h.gr.tape, hb.output.trans h.gr.output, Nat.le_trans h.gr.size hb.size, fun k hk hn => (hb.block k (Nat.lt_of_lt_of_le hk h.gr.size)).trans (h.gr.block k hk hn)⟩

theorem Bnd.putOk {xs : List Sl} (h : Bnd (-1) xs) (hs : storeB xs = true) (t : ByteArray) (ht : t.size ≤ 20) : Bnd (-1) (putS xs t).1 := by
  have hl := storeB_len hs
  have h0 : Bnd 0 xs := fun i hi => ⟨(h i hi).1, (okB_range (storeB_ok hs i (by omega))).1, (h i hi).2.2⟩
  exact (h0.put t ht hl).low (by omega)

/-- Some small slots in block g, and the reader. -/
def PutSt (m : Int) (B : Nat) (w1 : World) (g off : Nat) (W : World) : Prop := ∃ zs : List Sl, zs.length = 8 ∧ Bnd 0 zs ∧ Cnt m zs ∧ DSt B 201 w1 W g off zs

theorem PutSt.drew {m : Int} {B : Nat} {w1 : World} {g off : Nat} {W : World} (h : PutSt m B w1 g off W) : PutSt m B w1 g off W.drew := by
  obtain ⟨zs, h1, h2, hc, h3⟩ := h
  exact ⟨zs, h1, h2, hc, ⟨h3.rd, h3.lt, h3.gs, h3.new, h3.sl, ⟨h3.gr.os, h3.gr.tape, h3.gr.output, h3.gr.size, h3.gr.block⟩⟩⟩

theorem put_keep {m : Int} {B : Nat} {w1 : World} {g off c : Nat} {W : World} (h : PutSt m B w1 g off W) (t : ByteArray) (ht : tokB t.data.toList = true) (hs : t.size ≤ 20) :
    Calls Try.prog 64 #[.slice (some ⟨g, off, none⟩) 8 c, .string t] W fun e W' => ∃ (p : Int) (b : Bool), e = .returned (.tuple #[.slice (some ⟨g, off, none⟩) 8 c, .int .i64 p, .bool b]) ∧ PutSt (m + 1) B w1 g off W' := by
  obtain ⟨zs, h1, h2, hc, h3⟩ := h
  refine (l2Put_any g off c zs t W h3.sl h1 ht (fun i hi => by have := h2 i (by omega); omega)).mono ?_
  rintro e W' ⟨rfl, hs', hg'⟩
  exact ⟨_, _, rfl, _, by rw [putS_len]; exact h1, h2.put t hs h1, hc.put t h1, h3.store hs' hg'⟩

set_option maxHeartbeats 4000000 in
theorem drawStorePut_cnt (a : Option Addr) (len cap : Nat) (w : World) (h1 : len ≤ cap) (h2 : cap ≤ 9223372036854775807) (hr : Row8 w.heap.size w a len) :
    Calls Try.prog 24 #[.slice a len cap] w fun e w' => ∃ g off n c xs t, e = .returned (.tuple #[.slice (some ⟨g, off, none⟩) n c, .string t]) ∧ t.size ≤ 20 ∧ DR w w' g off n c xs ∧ (storeB xs = true → Cnt 28 xs) := by
  have ho := l6Open_rd a len cap w h1 h2 hr
  go_enter Try.func24, Try.ntmps24
  go_wp2_with fail
  refine ho.mono ?_
  rintro e w1 ⟨rfl, hR1, hb1⟩
  clear ho
  go_wp2_with fail
  refine (l71Store_cnt _ 0 w1 hR1 (by omega)).mono ?_
  rintro e w2 ⟨g, off, n, c, xs, rfl, hl, h7, h8, hc1, hc2, hbn, hd, hcn⟩
  have HCN := Lib.hid hcn
  clear hcn
  have HB1 := Lib.hid hb1
  clear hb1
  go_wp2_with fail
  refine (pick_any _ _ 4 _ hd.rd (by omega) (by omega)).mono ?_
  rintro e w2' ⟨r, rfl, r0, r1, hR⟩
  have hd2 := hd.ask hR
  clear hd hR
  by_cases hr0 : r = 0
  · subst hr0
    go_wp2_with fail
    go_loopw [5, 6] (fun s i wr => ∃ (k : Nat) (ys : List Sl), k ≤ 12 ∧ i = .int .i64 (k : Int) ∧ s = .slice (some ⟨g, off, none⟩) n c ∧ ys.length = n ∧ Bnd (-1) ys ∧ (storeB ys = true → Cnt (16 + (k : Int)) ys) ∧ DSt w.heap.size 201 w1 wr g off ys) (fun _ i _ => 12 - (intOf i).toNat)
    case atStart => exact ⟨0, xs, by omega, rfl, rfl, hl, hbn, fun h => (HCN.out h).mono (by omega), hd2⟩
    case round =>
      obtain ⟨k, ys, hk, rfl, rfl, hyl, hyb, hyc, hd⟩ := hrel
      have HYC := Lib.hid hyc
      clear hyc
      have HYB := Lib.hid hyb
      have HYL := Lib.hid hyl
      have HD := Lib.hid hd
      by_cases hlt : k < 12
      · have hC := storeOkS_v (.slice (some ⟨g, off, none⟩) n c) ys wr (hd.slv hyl h8) hyb.fits
        cases hsb : storeB ys
        · rw [hsb] at hC
          have HC := Lib.hid hC
          clear hyl hyb hd hsb hC
          go_wp2_with fail
          refine HC.out.mono ?_
          rintro e w3 ⟨rfl, hb3⟩
          have hd3 := HD.out.drawn hb3
          clear hb3
          go_wp2_with fail
          refine (l71Text_any _ _ _ hd3.rd (by omega)).mono ?_
          rintro e w4 ⟨t, rfl, ht, hR⟩
          have hdr := (hd3.ask hR).done HB1.out HYL.out h7 h8 hc1 hc2 HYB.out
          clear hR hd3
          go_wp2_with fail
          go_ret2
          exact ⟨_, _, _, _, ys, _, rfl, by omega, hdr, fun h => (HYC.out h).mono (by omega)⟩
        · rw [hsb] at hC
          have HC := Lib.hid hC
          have HSB := Lib.hid hsb
          have hl8 := storeB_len hsb
          have HU := Lib.hid (fun i hi => storeB_uses hsb i hi)
          obtain rfl : n = 8 := by omega
          have hq : k / 4 < 3 := by omega
          clear hyl hyb hd hsb hl8 hC
          go_wp2_with fail
          refine HC.out.mono ?_
          rintro e w3 ⟨rfl, hb3⟩
          have hd3 := HD.out.drawn hb3
          clear hb3
          have h0b : Bnd 0 ys := fun i hi => ⟨(HYB.out i hi).1, (HU.out i (by rw [HYL.out] at hi; exact hi)).1, (HYB.out i hi).2.2⟩
          have hS : PutSt (16 + (k : Int)) w.heap.size w1 g off w3 := ⟨ys, HYL.out, h0b, HYC.out HSB.out, hd3⟩
          clear hd3 h0b
          have hk12 : k = 0 ∨ k = 1 ∨ k = 2 ∨ k = 3 ∨ k = 4 ∨ k = 5 ∨ k = 6 ∨ k = 7 ∨ k = 8 ∨ k = 9 ∨ k = 10 ∨ k = 11 := by omega
          clear hq hk
          have q0 : IntKind.i64.wrap 0 = 0 := by decide
          have q1 : IntKind.i64.wrap 1 = 1 := by decide
          have q2 : IntKind.i64.wrap 2 = 2 := by decide
          have q3 : IntKind.i64.wrap 3 = 3 := by decide
          have q4 : IntKind.i64.wrap 4 = 4 := by decide
          obtain rfl | rfl | rfl | rfl | rfl | rfl | rfl | rfl | rfl | rfl | rfl | rfl := hk12
          · go_wp2_with fail
            have hSd := Lib.hid hS.drew
            clear hS
            go_region_held3 (fun _ => True) (trivial)
              (first | (go_at_call 64; refine (put_keep (c := c) hSd.out _ (by decide +kernel) (by decide +kernel)).mono ?_; rintro e w5 ⟨pl, ok, rfl, hS5⟩))
            obtain ⟨zs, hz1, hz2, hzc, hz3⟩ := hS5
            go_wp2_with fail
            go_roundw
            case rel => exact ⟨1, zs, by omega, rfl, rfl, hz1, hz2.low (by omega), fun _ => hzc.mono (by omega), hz3⟩
            case measure => simp [intOf]
          · go_wp2_with fail
            have hSd := Lib.hid hS.drew
            clear hS
            go_region_held3 (fun _ => True) (trivial)
              (first | (go_at_call 64; refine (put_keep (c := c) hSd.out _ (by decide +kernel) (by decide +kernel)).mono ?_; rintro e w5 ⟨pl, ok, rfl, hS5⟩))
            obtain ⟨zs, hz1, hz2, hzc, hz3⟩ := hS5
            go_wp2_with fail
            go_roundw
            case rel => exact ⟨2, zs, by omega, rfl, rfl, hz1, hz2.low (by omega), fun _ => hzc.mono (by omega), hz3⟩
            case measure => simp [intOf]
          · go_wp2_with fail
            have hSd := Lib.hid hS.drew
            clear hS
            go_region_held3 (fun _ => True) (trivial)
              (first | (go_at_call 64; refine (put_keep (c := c) hSd.out _ (by decide +kernel) (by decide +kernel)).mono ?_; rintro e w5 ⟨pl, ok, rfl, hS5⟩))
            obtain ⟨zs, hz1, hz2, hzc, hz3⟩ := hS5
            go_wp2_with fail
            go_roundw
            case rel => exact ⟨3, zs, by omega, rfl, rfl, hz1, hz2.low (by omega), fun _ => hzc.mono (by omega), hz3⟩
            case measure => simp [intOf]
          · go_wp2_with fail
            have hSd := Lib.hid hS.drew
            clear hS
            go_region_held3 (fun _ => True) (trivial)
              (first | (go_at_call 64; refine (put_keep (c := c) hSd.out _ (by decide +kernel) (by decide +kernel)).mono ?_; rintro e w5 ⟨pl, ok, rfl, hS5⟩))
            obtain ⟨zs, hz1, hz2, hzc, hz3⟩ := hS5
            go_wp2_with fail
            go_roundw
            case rel => exact ⟨4, zs, by omega, rfl, rfl, hz1, hz2.low (by omega), fun _ => hzc.mono (by omega), hz3⟩
            case measure => simp [intOf]
          · go_wp2_with fail
            have hSd := Lib.hid hS.drew
            clear hS
            go_region_held3 (fun _ => True) (trivial)
              (first | (go_at_call 64; refine (put_keep (c := c) hSd.out _ (by decide +kernel) (by decide +kernel)).mono ?_; rintro e w5 ⟨pl, ok, rfl, hS5⟩))
            obtain ⟨zs, hz1, hz2, hzc, hz3⟩ := hS5
            go_wp2_with fail
            go_roundw
            case rel => exact ⟨5, zs, by omega, rfl, rfl, hz1, hz2.low (by omega), fun _ => hzc.mono (by omega), hz3⟩
            case measure => simp [intOf]
          · go_wp2_with fail
            have hSd := Lib.hid hS.drew
            clear hS
            go_region_held3 (fun _ => True) (trivial)
              (first | (go_at_call 64; refine (put_keep (c := c) hSd.out _ (by decide +kernel) (by decide +kernel)).mono ?_; rintro e w5 ⟨pl, ok, rfl, hS5⟩))
            obtain ⟨zs, hz1, hz2, hzc, hz3⟩ := hS5
            go_wp2_with fail
            go_roundw
            case rel => exact ⟨6, zs, by omega, rfl, rfl, hz1, hz2.low (by omega), fun _ => hzc.mono (by omega), hz3⟩
            case measure => simp [intOf]
          · go_wp2_with fail
            have hSd := Lib.hid hS.drew
            clear hS
            go_region_held3 (fun _ => True) (trivial)
              (first | (go_at_call 64; refine (put_keep (c := c) hSd.out _ (by decide +kernel) (by decide +kernel)).mono ?_; rintro e w5 ⟨pl, ok, rfl, hS5⟩))
            obtain ⟨zs, hz1, hz2, hzc, hz3⟩ := hS5
            go_wp2_with fail
            go_roundw
            case rel => exact ⟨7, zs, by omega, rfl, rfl, hz1, hz2.low (by omega), fun _ => hzc.mono (by omega), hz3⟩
            case measure => simp [intOf]
          · go_wp2_with fail
            have hSd := Lib.hid hS.drew
            clear hS
            go_region_held3 (fun _ => True) (trivial)
              (first | (go_at_call 64; refine (put_keep (c := c) hSd.out _ (by decide +kernel) (by decide +kernel)).mono ?_; rintro e w5 ⟨pl, ok, rfl, hS5⟩))
            obtain ⟨zs, hz1, hz2, hzc, hz3⟩ := hS5
            go_wp2_with fail
            go_roundw
            case rel => exact ⟨8, zs, by omega, rfl, rfl, hz1, hz2.low (by omega), fun _ => hzc.mono (by omega), hz3⟩
            case measure => simp [intOf]
          · go_wp2_with fail
            have hSd := Lib.hid hS.drew
            clear hS
            go_region_held3 (fun _ => True) (trivial)
              (first | (go_at_call 64; refine (put_keep (c := c) hSd.out _ (by decide +kernel) (by decide +kernel)).mono ?_; rintro e w5 ⟨pl, ok, rfl, hS5⟩))
            obtain ⟨zs, hz1, hz2, hzc, hz3⟩ := hS5
            go_wp2_with fail
            go_roundw
            case rel => exact ⟨9, zs, by omega, rfl, rfl, hz1, hz2.low (by omega), fun _ => hzc.mono (by omega), hz3⟩
            case measure => simp [intOf]
          · go_wp2_with fail
            have hSd := Lib.hid hS.drew
            clear hS
            go_region_held3 (fun _ => True) (trivial)
              (first | (go_at_call 64; refine (put_keep (c := c) hSd.out _ (by decide +kernel) (by decide +kernel)).mono ?_; rintro e w5 ⟨pl, ok, rfl, hS5⟩))
            obtain ⟨zs, hz1, hz2, hzc, hz3⟩ := hS5
            go_wp2_with fail
            go_roundw
            case rel => exact ⟨10, zs, by omega, rfl, rfl, hz1, hz2.low (by omega), fun _ => hzc.mono (by omega), hz3⟩
            case measure => simp [intOf]
          · go_wp2_with fail
            have hSd := Lib.hid hS.drew
            clear hS
            go_region_held3 (fun _ => True) (trivial)
              (first | (go_at_call 64; refine (put_keep (c := c) hSd.out _ (by decide +kernel) (by decide +kernel)).mono ?_; rintro e w5 ⟨pl, ok, rfl, hS5⟩))
            obtain ⟨zs, hz1, hz2, hzc, hz3⟩ := hS5
            go_wp2_with fail
            go_roundw
            case rel => exact ⟨11, zs, by omega, rfl, rfl, hz1, hz2.low (by omega), fun _ => hzc.mono (by omega), hz3⟩
            case measure => simp [intOf]
          · go_wp2_with fail
            have hSd := Lib.hid hS.drew
            clear hS
            go_region_held3 (fun _ => True) (trivial)
              (first | (go_at_call 64; refine (put_keep (c := c) hSd.out _ (by decide +kernel) (by decide +kernel)).mono ?_; rintro e w5 ⟨pl, ok, rfl, hS5⟩))
            obtain ⟨zs, hz1, hz2, hzc, hz3⟩ := hS5
            go_wp2_with fail
            go_roundw
            case rel => exact ⟨12, zs, by omega, rfl, rfl, hz1, hz2.low (by omega), fun _ => hzc.mono (by omega), hz3⟩
            case measure => simp [intOf]
      · obtain rfl : k = 12 := by omega
        clear hyl hyb hd
        have hd := HD.out
        go_wp2_with fail
        refine (l71Text_any _ _ _ hd.rd (by omega)).mono ?_
        rintro e w4 ⟨t, rfl, ht, hR⟩
        have hd4 := hd.ask hR
        clear hR
        cases he : t.toList.isEmpty
        · have he2 : (!t.toList.isEmpty) = true := by rw [he]; rfl
          have hdr := hd4.done HB1.out HYL.out h7 h8 hc1 hc2 HYB.out
          go_wp2_with fail
          go_ret2
          exact ⟨_, _, _, _, _, _, rfl, by omega, hdr, fun h => (HYC.out h).mono (by omega)⟩
        · go_wp2_with fail
          refine (pick_any _ _ 6 _ hd4.rd (by omega) (by omega)).mono ?_
          rintro e w5 ⟨q, rfl, q0, q1, hR⟩
          have hdr := (hd4.ask hR).done HB1.out HYL.out h7 h8 hc1 hc2 HYB.out
          clear hR
          by_cases hq : 0 < q
          · go_wp2_with fail
            go_ret2
            exact ⟨_, _, _, _, _, _, rfl, by show 3 ≤ 20; omega, hdr, fun h => (HYC.out h).mono (by omega)⟩
          · go_wp2_with fail
            go_ret2
            exact ⟨_, _, _, _, _, _, rfl, by omega, hdr, fun h => (HYC.out h).mono (by omega)⟩
  · have e0 : (r == 0) = false := by simpa using hr0
    have HYB := Lib.hid hbn
    have HYL := Lib.hid hl
    have hd := hd2
    clear hbn hl hd2 hr0
    go_wp2_with fail
    refine (l71Text_any _ _ _ hd.rd (by omega)).mono ?_
    rintro e w4 ⟨t, rfl, ht, hR⟩
    have hd4 := hd.ask hR
    clear hR
    cases he : t.toList.isEmpty
    · have he2 : (!t.toList.isEmpty) = true := by rw [he]; rfl
      have hdr := hd4.done HB1.out HYL.out h7 h8 hc1 hc2 HYB.out
      go_wp2_with fail
      go_ret2
      exact ⟨_, _, _, _, _, _, rfl, by omega, hdr, fun h => (HCN.out h).mono (by omega)⟩
    · go_wp2_with fail
      refine (pick_any _ _ 6 _ hd4.rd (by omega) (by omega)).mono ?_
      rintro e w5 ⟨q, rfl, q0, q1, hR⟩
      have hdr := (hd4.ask hR).done HB1.out HYL.out h7 h8 hc1 hc2 HYB.out
      clear hR
      by_cases hq : 0 < q
      · go_wp2_with fail
        go_ret2
        exact ⟨_, _, _, _, _, _, rfl, by show 3 ≤ 20; omega, hdr, fun h => (HCN.out h).mono (by omega)⟩
      · go_wp2_with fail
        go_ret2
        exact ⟨_, _, _, _, _, _, rfl, by omega, hdr, fun h => (HCN.out h).mono (by omega)⟩

theorem drawStorePut_any (a : Option Addr) (len cap : Nat) (w : World) (h1 : len ≤ cap) (h2 : cap ≤ 9223372036854775807) (hr : Row8 w.heap.size w a len) :
    Calls Try.prog 24 #[.slice a len cap] w fun e w' => ∃ g off n c xs t, e = .returned (.tuple #[.slice (some ⟨g, off, none⟩) n c, .string t]) ∧ t.size ≤ 20 ∧ DR w w' g off n c xs := by
  refine (drawStorePut_cnt a len cap w h1 h2 hr).mono ?_
  rintro e w' ⟨g, off, n, c, xs, t, q1, q2, q3, _⟩
  exact ⟨g, off, n, c, xs, t, q1, q2, q3⟩

end Go.Proofs.Ytgajhknljnhfmaa
