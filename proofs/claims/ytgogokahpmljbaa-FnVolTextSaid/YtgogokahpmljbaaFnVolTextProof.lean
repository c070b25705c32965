/- For every code the law FnVolText returns true and leaves the code as it was. No condition. -/
import Derived.Test.YtgogokahpmljbaaRows
import Derived.WalkKit
import Derived.ProofKit
import Derived.OpenShut
import Derived.ShutString
import Derived.ChangeOld
import Derived.Below
import Derived.Test.YtgogokahpmljbaaHead
import Derived.Test.YtgogokahpmljbaaDrawVol
import Derived.Test.YtgogokahpmljbaaVolI
import Derived.Deep.RegionHeld3
namespace Go.Proofs.Ytgogokahpmljbaa.fnVolText
open Go.ChangeShapes Go.WideShapes Go.ChangeAt Go.RowKit
open Go.ChangeMaps (open_string shut_string)
set_option linter.unusedVariables false

theorem own : ownKnob Try.prog.godebug = none := by kernel_rfl
theorem laidOut : laidOutB Try.prog = true := by kernel_rfl

def IsRow (k : IntKind) (w : World) (a : Option Addr) (len cap : Nat) (zs : List Int) : Prop :=
  (a = none ∧ len = 0 ∧ cap = 0 ∧ zs = []) ∨
  ∃ x, a = some x ∧ len ≤ cap ∧ cap ≤ maxLen ∧ zs.length = cap ∧ (∀ i, i < zs.length → w.cell? (x.add i) = some (.int k (zs.getD i 0))) ∧ ∀ n ∈ zs, (Lit.int k n).wf = true

/-- How many blanks stand among the first k letters. -/
def blk32 (s : ByteArray) (k : Nat) : Nat := (s.data.toList.take k).count 32
theorem blk32_step (s : ByteArray) (k : Nat) (hk : k < s.size) : blk32 s (k + 1) = blk32 s k + (if ((s[k]'hk).toNat : Int) = 32 then 1 else 0) := by
  have hl : k < s.data.toList.length := by simpa using hk
  have he : s.data.toList[k] = s[k]'hk := by simp [ByteArray.getElem_eq_getElem_data]
  unfold blk32
  rw [List.take_succ_eq_append_getElem hl, List.count_append, List.count_singleton, he]
  by_cases e : ((s[k]'hk).toNat : Int) = 32
  · have e2 : (s[k]'hk) = 32 := by
      have : (s[k]'hk).toNat = 32 := by omega
      exact UInt8.toNat_inj.1 this
    rw [if_pos e, e2]; rfl
  · have e2 : ¬ (s[k]'hk) = 32 := fun h => e (by rw [h]; rfl)
    rw [if_neg e, if_neg (by simpa using e2)]
theorem blk32_le (s : ByteArray) (k : Nat) : blk32 s k ≤ k := Nat.le_trans List.count_le_length (by simp; omega)
theorem piece_noblank {xs : List Sl} (hs : storeB xs = true) (b : Int) (hb : b ≤ 8) : (pieceAt xs b).data.toList.count 32 = 0 := by
  have hh : (⟨#[45]⟩ : ByteArray).data.toList.count 32 = 0 := by decide
  unfold pieceAt
  split
  · exact hh
  · split
    · exact hh
    · by_cases h : (b - 1).toNat < 8
      · have hok := storeB_ok hs (b - 1).toNat h
        simp only [okB, Bool.and_eq_true] at hok
        have ht := hok.1.1
        refine List.count_eq_zero.2 (fun hm => ?_)
        have := List.all_eq_true.1 (tokB_let ht) 32 hm
        revert this; decide
      · omega
theorem textTo_blank {nm : ByteArray} {xs : List Sl} {bs : List Int} (hs : storeB xs = true) (hn : nm.data.toList.count 32 = 0) (hb : ∀ b ∈ bs, 0 ≤ b ∧ b ≤ 8) : ∀ k, k ≤ bs.length → (textTo nm xs bs k).data.toList.count 32 = k
  | 0, _ => by simpa [textTo] using hn
  | k + 1, h => by
    have h1 := textTo_blank hs hn hb k (by omega)
    have hm : bth bs k ∈ bs := by rw [bth_get _ _ (by omega)]; exact List.getElem_mem _
    have h2 := piece_noblank hs (bth bs k) (hb _ hm).2
    have h3 : (⟨#[32]⟩ : ByteArray).data.toList.count 32 = 1 := by decide
    simp only [textTo, ByteArray.data_append, Array.toList_append, List.count_append, h1, h2, h3]
theorem name_noblank {nm : ByteArray} (h : nameB nm.data.toList = true) : nm.data.toList.count 32 = 0 := by
  refine List.count_eq_zero.2 (fun hm => ?_)
  obtain ⟨_, _, c, hc⟩ := nameB_key h
  rw [hc] at hm h
  have : 32 = c := by simpa using hm
  subst this
  revert h; decide
theorem textTo_head {nm : ByteArray} {xs : List Sl} {bs : List Int} (hn : nm.size = 1) : ∀ k, 1 ≤ (textTo nm xs bs k).size ∧ (textTo nm xs bs k).extract 0 1 = nm
  | 0 => ⟨by simp [textTo, hn], by
      have : nm.extract 0 1 = nm := by rw [← hn]; exact ByteArray.extract_zero_size
      simpa [textTo] using this⟩
  | k + 1 => by
    obtain ⟨h1, h2⟩ := textTo_head (nm := nm) (xs := xs) (bs := bs) hn k
    refine ⟨by simp only [textTo, ByteArray.size_append]; omega, ?_⟩
    simp only [textTo]
    rw [ByteArray.append_assoc, ByteArray.extract_append]
    have e : (⟨#[32]⟩ ++ pieceAt xs (bth bs k)).extract (0 - (textTo nm xs bs k).size) (1 - (textTo nm xs bs k).size) = ByteArray.empty := by
      rw [show 0 - (textTo nm xs bs k).size = 0 from by omega, show 1 - (textTo nm xs bs k).size = 0 from by omega]; simp
    rw [e, h2]; simp
theorem text_empty {xs : List Sl} (hs : storeB xs = true) : textF ⟨⟨#[65]⟩, [0, 0]⟩ xs = ⟨#[65, 32, 45, 32, 45]⟩ := by
  have hv : volB ⟨⟨#[65]⟩, [0, 0]⟩ = true := by decide
  unfold textF
  rw [hv, hs]
  simp [textTo, pieceAt, bth]
  rfl

set_option maxRecDepth 100000 in
set_option maxHeartbeats 12800000 in
theorem walk (w : World) (a0 : Option Addr) (len0 cap0 : Nat) (z0 : List Int) (w0 : IsRow .u8 w a0 len0 cap0 z0) :
    Calls Try.prog 5 #[.slice a0 len0 cap0] w fun e w' => e = .returned (.bool true) ∧ Below w.heap.size w w' := by
  obtain ⟨hr8, hlc, hc⟩ := row8 w0
  clear w0
  by_cases hbig : (1048576 : Int) < len0
  · go_enter Try.func5, Try.ntmps5
    go_wp2
    go_ret
    exact ⟨rfl, Below.refl _ _⟩
  have hd := drawVolText_any a0 len0 cap0 w hlc hc hr8
  clear hr8
  go_enter Try.func5, Try.ntmps5
  go_wp2_with fail
  refine hd.mono ?_
  rintro e w2 ⟨nm, g, off, n, c, bs, gs, cs, xs, rfl, hnm, hx, hl, hn6, hsl, hfi, hb2⟩
  clear hd
  have HSZ := Lib.hid (show nm.size ≤ maxLen by unfold maxLen; omega)
  have HL := Lib.hid hl
  have HX2 := Lib.hid (boxed_vol w2 nm (some ⟨g, off, none⟩) n c bs 25 (.inr ⟨g, off, rfl, hx⟩))
  have HB2 := Lib.hid hb2
  have HSL := Lib.hid hsl
  have HFI := Lib.hid hfi
  obtain ⟨T, hT⟩ : ∃ T, textF ⟨nm, bs⟩ xs = T := ⟨_, rfl⟩
  have HEND : Hid (∀ W, BoxVol w2 nm (some ⟨g, off, none⟩) n c bs W → Below w.heap.size w W) := Lib.hid (fun W h => HB2.out.trans (h.bel.mono HB2.out.size))
  clear hx hl hsl hfi hb2
  have H1 := Lib.hid (fun (W : World) (h : BoxVol w2 nm (some ⟨g, off, none⟩) n c bs W) => volText_any nm (some ⟨g, off, none⟩) n c bs (.slice (some ⟨gs, 0, none⟩) 8 cs) xs W HSZ.out h.ints HL.out (by omega) (HSL.out.below h.bel (Nat.le_refl _)) HFI.out)
  have H2 := Lib.hid (fun (W : World) (h : BoxVol w2 nm (some ⟨g, off, none⟩) n c bs W) => volTextS_any nm (some ⟨g, off, none⟩) n c bs (.slice (some ⟨gs, 0, none⟩) 8 cs) xs W HSZ.out h.ints HL.out (by omega) (HSL.out.below h.bel (Nat.le_refl _)) HFI.out)
  rw [hT] at H1 H2
  have c0 := HX2.out.c0
  have c1 := HX2.out.c1
  go_wp2_with fail
  refine (H1.out _ HX2.out).mono ?_
  rintro e w3 ⟨rfl, hb3⟩
  have hX3 := HX2.out.next hb3
  clear hb3 c0 c1
  have c0 := hX3.c0
  have c1 := hX3.c1
  have HX3 := Lib.hid hX3
  clear hX3
  cases hvs : (volB ⟨nm, bs⟩ && storeB xs)
  · have hT0 : T = ⟨#[]⟩ := by rw [← hT]; unfold textF; rw [hvs]; rfl
    subst hT0
    clear hvs hT
    go_wp2_with fail
    refine (H2.out _ HX3.out).mono ?_
    rintro e w4 ⟨rfl, hb4⟩
    have hX4 := HX3.out.next hb4
    clear hb4 c0 c1
    have c0 := hX4.c0
    have c1 := hX4.c1
    go_wp2_with fail
    refine (H2.out _ hX4).mono ?_
    rintro e w5 ⟨rfl, hb5⟩
    have hB := HEND.out _ (hX4.next hb5)
    clear hb5 hX4 c0 c1
    go_wp2_with fail
    go_ret
    exact ⟨rfl, hB⟩
  · have hvs2 := hvs
    rw [Bool.and_eq_true] at hvs
    obtain ⟨ha, hnn, hn1, _⟩ := (volB_iff _).1 hvs.1
    have hsz := nameB_size nm hnn
    have hTT : T = textTo nm xs bs bs.length := by rw [← hT]; unfold textF; rw [hvs2]; rfl
    have hcnt : blk32 T T.size = n := by
      unfold blk32
      rw [List.take_of_length_le (by simp), hTT, textTo_blank hvs.2 (name_noblank hnn) ha _ (Nat.le_refl _), HL.out]
    have hhd := textTo_head (xs := xs) (bs := bs) hsz bs.length
    rw [← hTT] at hhd
    have htl := textTo_size hvs.2 hsz ha bs.length (Nat.le_refl _)
    rw [← hTT, HL.out] at htl
    have HCNT := Lib.hid hcnt
    have HHD := Lib.hid hhd.2
    have HST := Lib.hid hvs.2
    have ht1 := hhd.1
    have ht2 : T.size ≤ 31 := by omega
    have ht0 : T.toList.isEmpty = false := by
      rw [ByteArray.toList_eq]
      cases he : T.data.toList.isEmpty
      · rfl
      · have h0 : T.data.toList = [] := List.isEmpty_iff.1 he
        have : T.size = 0 := by show T.data.size = 0; rw [← Array.length_toList, h0]; rfl
        omega
    clear hvs hvs2 ha hnn hn1 hsz hTT hcnt hhd htl hT
    go_wp2_with fail
    refine (H2.out _ HX3.out).mono ?_
    rintro e w4 ⟨rfl, hb4⟩
    have hX4 := HX3.out.next hb4
    clear hb4 c0 c1
    have HX4 := Lib.hid hX4
    clear hX4
    go_wp2_with fail
    go_loopw [6, 7] (fun s i wr => ∃ k : Nat, k ≤ T.size ∧ i = .int .i64 (k : Int) ∧ s = .int .i64 ((blk32 T k : Nat) : Int) ∧ BoxVol w2 nm (some ⟨g, off, none⟩) n c bs wr) (fun s i _ => T.size - (intOf i).toNat)
    case atStart => exact ⟨0, by omega, rfl, rfl, HX4.out⟩
    case round =>
      obtain ⟨k, hk, rfl, rfl, hX⟩ := hrel
      have HXK := Lib.hid hX
      have hle := blk32_le T k
      clear hX
      by_cases hlt : k < T.size
      · have k1 : (k : Int) < (T.size : Int) := by omega
        have k0 : (0 : Int) ≤ (k : Int) := by omega
        have HST := Lib.hid (blk32_step T k hlt)
        have e1 : IntKind.i64.wrap ((blk32 T k : Nat) + 1 : Int) = ((blk32 T k : Nat) : Int) + 1 := IntWalk.i64_in _ (by omega)
        by_cases h32 : ((T[k]'hlt).toNat : Int) = 32
        · have H32 := Lib.hid h32
          go_wp2_with fail
          go_roundw
          case rel => exact ⟨k + 1, by omega, by go_num, by rw [HST.out, if_pos H32.out]; push_cast; rfl, HXK.out⟩
          case measure => simp [intOf]; omega
        · have H32 := Lib.hid h32
          go_wp2_with fail
          go_roundw
          case rel => exact ⟨k + 1, by omega, by go_num, by rw [HST.out, if_neg H32.out]; rfl, HXK.out⟩
          case measure => simp [intOf]; omega
      · obtain rfl : k = T.size := by omega
        rw [HCNT.out]
        have n5 := new_cells wr #[.int .i64 0, .int .i64 0] 3
        have HX5 := Lib.hid (HXK.out.alloc (.cells #[.int .i64 0, .int .i64 0] 3))
        have H5 := Lib.hid (volText_any ⟨#[65]⟩ (some ⟨wr.heap.size, 0, none⟩) 2 2 [0, 0] (.slice (some ⟨gs, 0, none⟩) 8 cs) xs (wr.alloc (.cells #[.int .i64 0, .int .i64 0] 3)) (by unfold maxLen; decide)
          (.inr ⟨wr.heap.size, 0, rfl, fun i hi => by
            have h2 : i = 0 ∨ i = 1 := by simp at hi; omega
            rw [Nat.zero_add, n5.1 i]
            rcases h2 with rfl | rfl <;> rfl⟩) rfl (by omega) (HSL.out.below HX5.out.bel (Nat.le_refl _)) HFI.out)
        rw [text_empty HST.out] at H5
        clear n5 hle
        go_wp2_with fail
        refine H5.out.mono ?_
        rintro e w6 ⟨rfl, hb6⟩
        have hX6 := HX5.out.next hb6
        clear hb6
        have HB := Lib.hid (HEND.out _ hX6)
        have c0 := hX6.c0
        have c1 := hX6.c1
        have hhd := HHD.out
        have t1 : (1 : Int) ≤ (T.size : Int) := by omega
        clear hX6
        go_wp2_with fail
        go_quiet (fail)
        go_wp2_with fail
        go_ret
        exact ⟨rfl, below_drewN HB.out nq⟩

set_option maxRecDepth 100000 in
theorem lifted (os : Os) (started : os.Started) (H : Type) (enc : TypeId × Value → H) :
    ReturnsInHanded {} Try.checked os 5 .any (Rows.fnVolTextSpec.pre6 enc Try.prog Try.f5 Rows.fnVolTextRow.domain false) (Rows.fnVolTextSpec.post enc Try.prog Try.f5 false true false false) := by
  refine returnsInHanded_of_change (C := Try.checked) own started (by kernel_rfl) Try.func5
    (ChangeSpec.witness6 (enc := enc) (C := Try.checked) false ⟨#[], #[.slice none 0 0], []⟩ 8 (by kernel_rfl) (by kernel_rfl) (by kernel_rfl) (by kernel_rfl)) ?_
  intro W base args ds gs before hval0 hW hcnd _
  have hval : ∀ (j : Nat) t v, Try.f5.params[j]? = some t → args[j]? = some v → Value.okWide Try.prog W .any base t v := hval0
  have hW' := hW
  obtain ⟨p, q, hA0, hV, rfl, hfz, hnd⟩ := hW
  have hA : DataW.TrodAll enc Try.prog W 0 (fun _ => true) true Try.f5.params.toList args.toList ds p := hA0
  rw [Try.params5] at hA hval
  obtain ⟨v0, vs0, d0, ds0, p0, q0, hargs, rfl, rfl, h0, r0⟩ := trodAll_cons hA
  obtain ⟨rfl, rfl, rfl⟩ := trodAll_nil r0
  obtain rfl : args = #[v0] := by cases args; simp_all
  obtain ⟨rfl, rfl⟩ := trodVars_none hV
  obtain ⟨a0, len0, cap0, rfl⟩ := okWide_slice Try.underlying22 (hval 0 22 v0 rfl rfl)
  have k0 := h0
  have lt0 : ∀ x ∈ p0, x.block < W.heap.size := by obtain ⟨m, hm⟩ := k0; exact DataW.trod_lt m _ _ _ hm
  obtain ⟨z0, w0⟩ : ∃ zs, IsRow .u8 W a0 len0 cap0 zs := by
    obtain ⟨fuel, hf⟩ := h0
    rcases open_ints Try.underlying22 Try.underlying5 (by kernel_rfl) hf with ⟨hcs, _⟩ | ⟨x, l, c, zs, hcs, _, hl, hm, hz, _, hcell, hwz⟩
    · simp [Value.cells] at hcs
      obtain ⟨rfl, rfl, rfl⟩ := hcs
      exact ⟨[], .inl ⟨rfl, rfl, rfl, rfl⟩⟩
    · simp [Value.cells] at hcs
      obtain ⟨rfl, rfl, rfl⟩ := hcs
      exact ⟨zs, .inr ⟨_, rfl, hl, hm, by simpa using hz, hcell, hwz⟩⟩
  clear hA0 hval0
  refine (walk W a0 len0 cap0 z0 w0).mono fun e W' ⟨he, bel⟩ => ?_
  subst he
  exact ⟨_, rfl, _, _, _, [], _, [], hW', trodAll_mk1 (shut_bool Try.underlying4 _), (trodAll_cons_mk (Below.trod laidOut (by kernel_rfl) (of_decide_eq_true (by kernel_rfl)) k0 bel lt0) trodAll_mk0), rfl, bel.frame _, fun h => by cases h⟩

theorem closed : joinedFacts Try.prog 5 Try.f5 Rows.fnVolTextSpec Rows.fnVolTextRow = true := by
  unfold joinedFacts
  rewrite [head_may, head_lifts, head_make]
  kernel_rfl
theorem over : Rows.fnVolTextRow.holds Try.pinned (OpenSpec.ofChange Rows.fnVolTextSpec) :=
  OpenClaim.holds_of_wide 5 Try.f5 rfl rfl rfl rfl rfl rfl rfl ⟨rfl, rfl, rfl, rfl, rfl⟩ rfl rfl rfl rfl rfl (by kernel_rfl) Try.func5 closed
    (of_decide_eq_true (by kernel_rfl)) (by unfold Func.isWrapper; first | (rw [if_pos (by decide +kernel)]; kernel_rfl) | (rw [if_neg (by decide +kernel)]; exact ⟨rfl, rfl⟩))
    (fun os started H enc _ => lifted os started H enc)

theorem proved : Rows.FnVolTextSaid := over
#print axioms proved
end Go.Proofs.Ytgogokahpmljbaa.fnVolText
