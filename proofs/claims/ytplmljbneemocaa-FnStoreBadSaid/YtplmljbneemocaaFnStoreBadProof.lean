/- For every two codes the law FnStoreBad returns true and leaves both as they were. No condition. -/
import Derived.Test.YtplmljbneemocaaRows
import Derived.WalkKit
import Derived.ProofKit
import Derived.OpenShut
import Derived.ShutString
import Derived.ChangeOld
import Derived.Below
import Derived.Test.YtplmljbneemocaaStoreMath3
import Derived.Deep.Cut
namespace Go.Proofs.Ytplmljbneemocaa.fnStoreBad
open Go.ChangeShapes Go.WideShapes Go.ChangeAt Go.RowKit
open Go.ChangeMaps (open_string shut_string)
set_option linter.unusedVariables false

theorem own : ownKnob Try.prog.godebug = none := by kernel_rfl
theorem laidOut : laidOutB Try.prog = true := by kernel_rfl

def IsRow (k : IntKind) (w : World) (a : Option Addr) (len cap : Nat) (zs : List Int) : Prop :=
  (a = none ∧ len = 0 ∧ cap = 0 ∧ zs = []) ∨
  ∃ x, a = some x ∧ len ≤ cap ∧ cap ≤ maxLen ∧ zs.length = cap ∧ (∀ i, i < zs.length → w.cell? (x.add i) = some (.int k (zs.getD i 0))) ∧ ∀ n ∈ zs, (Lit.int k n).wf = true

theorem infoSl : (Try.prog.info? 31).map (fun i => (i.zero, i.size, i.bytes)) = some (some (.agg #[.string ⟨#[]⟩, .int .i64 0]), 2, 24) := by kernel_rfl
/-- A copy of eight slots, behind nothing. -/
theorem append_copy {ops : Array Oper} {rest : List Oper} {o : Oper} {a : Act} {Q : Exit → Act → World → Prop} (W : World) (hgd : o.guard = none) (s x : Operand) (ho : o.op = .call { callee := .builtin .append, args := #[s, x], argTypes := #[23, 23] })
    (hs : a.eval s = .slice (some ⟨W.heap.size, 0, none⟩) 0 0) (g off c : Nat) (hx : a.eval x = .slice (some ⟨g, off, none⟩) 8 c) (xs : List Sl) (hsl : Slots W g off xs) (hn : xs.length = 8)
    (h : ∀ g' cap' w1, W.heap.size ≤ g' → g' < w1.heap.size → 8 ≤ cap' → SlotsW w1 g' 0 xs → Below W.heap.size W w1 → wpList Try.prog ops Q rest (a.put o.dst (.slice (some ⟨g', 0, none⟩) 8 cap')) w1) :
    wpList Try.prog ops Q (o :: rest) a (W.alloc (.cells #[] 31)) := by
  have hlt := hsl.lt (by omega)
  obtain ⟨i0, hi, hz0, hz1, hz2⟩ := info_parts infoSl
  have hcell : ∀ j u, (flat xs)[j]? = some u → (W.alloc (.cells #[] 31)).cell? ((⟨g, off, none⟩ : Addr).add j) = some u :=
    fun j u hj => (World.cell?_of_block (w := W) (heap_alloc_old W _ (by rw [add_lit]; exact hlt))).trans (hsl.flat j u hj)
  have hown : (W.alloc (.cells #[] 31)).ownsRow W.heap.size 31 2 (.slice (some ⟨W.heap.size, 0, none⟩) 0 0) 0 [] :=
    World.ownsRow_made W #[] 0 (Nat.le_refl _) (by unfold maxLen; omega) rfl
  refine wpList_append_own (P := Try.prog) (W.alloc (.cells #[] 31)) hgd s x 23 ho W.heap.size 31 i0 (.agg #[.string ⟨#[]⟩, .int .i64 0]) 2 24 Try.underlying23 hi hz0 hz1 hz2 rfl (by decide) _ _ _ hs hown ⟨g, off, none⟩ 8 c (flat xs) hx (by rw [flat_length, hn]) hcell (flat_one xs) (by unfold maxLen; omega) (by omega) (by simp) ?_
  intro v' w1 hown' hgrow _
  simp only [Nat.zero_add, List.nil_append] at hown'
  obtain ⟨g', cap', hv, hb, hl', hc', hs'⟩ := slots_of_own hown' (by omega) hn
  rw [hv]
  exact h g' cap' w1 hb hl' hc' hs' (((Below.refl _ _).alloc (Nat.le_refl _) _).grown hgrow (by simp) (fun k e => by cases e; exact Nat.le_refl _))

/-- A slot that is not right in itself: the store is not. -/
theorem bad_unused (xs : List Sl) (k : Nat) (hl : xs.length = 8) (hk : k < 8) : storeB (xs.set k ⟨⟨#[97]⟩, 0⟩) = false := by
  refine storeB_no _ k (by rw [List.length_set]; omega) (rowB_ok _ _ ?_)
  rw [nth_set _ _ _ _ (by omega), if_pos rfl]
  refine okB_free _ ?_
  have : (⟨#[97]⟩ : ByteArray).toList = [97] := by rw [ByteArray.toList_eq]
  simp only [this]; rfl
/-- A piece twice: the store is none. -/
theorem bad_twice (xs : List Sl) (k j : Nat) (hl : xs.length = 8) (hk : k < 8) (hj : j < 8) (hne : k ≠ j) : storeB ((xs.set k ⟨⟨#[98, 98]⟩, 1⟩).set j ⟨⟨#[98, 98]⟩, 1⟩) = false := by
  have hb : (⟨#[98, 98]⟩ : ByteArray).toList.isEmpty = false := by rw [ByteArray.toList_eq]; rfl
  have hl1 : (xs.set k ⟨⟨#[98, 98]⟩, 1⟩).length = 8 := by rw [List.length_set]; exact hl
  cases hs : storeB ((xs.set k ⟨⟨#[98, 98]⟩, 1⟩).set j ⟨⟨#[98, 98]⟩, 1⟩)
  · rfl
  · have h1 : TextAt ((xs.set k ⟨⟨#[98, 98]⟩, 1⟩).set j ⟨⟨#[98, 98]⟩, 1⟩) k ⟨#[98, 98]⟩ = true := by
      unfold TextAt
      rw [nth_set _ _ _ _ (by omega), if_neg (by omega), nth_set _ _ _ _ (by omega), if_pos rfl]
      exact beq_self_eq_true _
    have h2 : TextAt ((xs.set k ⟨⟨#[98, 98]⟩, 1⟩).set j ⟨⟨#[98, 98]⟩, 1⟩) j ⟨#[98, 98]⟩ = true := by
      unfold TextAt
      rw [nth_set _ _ _ _ (by omega), if_pos rfl]
      exact beq_self_eq_true _
    exact absurd (dup_unique hs _ hb k j hk hj h1 h2) hne
theorem slots_from1 {w : World} {g off : Nat} {xs : List Sl} (h : Slots w g off xs) : Slots w g (off + 2) (xs.drop 1) := fun i hi => by
  have h2 := h (i + 1) (by simp at hi; omega)
  have e : nth (xs.drop 1) i = nth xs (i + 1) := by
    unfold nth; simp
  rw [e, show off + 2 + i * 2 = off + (i + 1) * 2 from by omega]
  exact h2
theorem drop1_fits {xs : List Sl} (h : Fits xs) : Fits (xs.drop 1) := fun i hi => by
  have e : nth (xs.drop 1) i = nth xs (i + 1) := by
    unfold nth; simp
  rw [e]; exact h (i + 1) (by simp at hi; omega)

set_option maxRecDepth 100000 in
set_option maxHeartbeats 800000 in
theorem walk (w : World) (a0 : Option Addr) (len0 cap0 : Nat) (z0 : List Int) (w0 : IsRow .u8 w a0 len0 cap0 z0) (a1 : Option Addr) (len1 cap1 : Nat) (z1 : List Int) (w1 : IsRow .u8 w a1 len1 cap1 z1) :
    Calls Try.prog 10 #[.slice a0 len0 cap0, .slice a1 len1 cap1] w fun e w' => e = .returned (.bool true) ∧ Below w.heap.size w w' := by
  obtain ⟨hr8, hlc, hc⟩ := row8 w0
  obtain ⟨_, hlc1, hc1⟩ := row8 w1
  clear w0 w1
  by_cases hbig : (1048576 : Int) < len0
  · have d1 : decide ((1048576 : Int) < len0) = true := by simpa using hbig
    go_enter Try.func10, Try.ntmps10
    go_wp2
    go_ret
    exact ⟨rfl, Below.refl _ _⟩
  have d1 : decide ((1048576 : Int) < len0) = false := by simpa using hbig
  by_cases hbig1 : (1048576 : Int) < len1
  · have d2 : decide ((1048576 : Int) < len1) = true := by simpa using hbig1
    go_enter Try.func10, Try.ntmps10
    go_wp2
    go_ret
    exact ⟨rfl, Below.refl _ _⟩
  have d2 : decide ((1048576 : Int) < len1) = false := by simpa using hbig1
  have hd := drawStoreOk_any a0 len0 cap0 w hlc hc hr8
  obtain ⟨k, hk, hk8⟩ : ∃ k : Nat, (len1 : Int) % 8 = (k : Int) ∧ k < 8 := ⟨len1 % 8, by omega, by omega⟩
  obtain ⟨j, hj, hj8, hkj⟩ : ∃ j : Nat, ((k : Int) + 1) % 8 = (j : Int) ∧ j < 8 ∧ k ≠ j := ⟨(k + 1) % 8, by omega, by omega, by omega⟩
  have HKJ := Lib.hid hkj
  clear hr8 hkj
  go_enter Try.func10, Try.ntmps10
  go_wp2_with fail
  refine hd.mono ?_
  rintro e w2 ⟨g, off, n, c, xs, rfl, hdr⟩
  clear hd
  have HF := Lib.hid hdr.bnd.fits
  have HL := Lib.hid hdr.len
  have hn8 := hdr.hi
  have H1 := Lib.hid (storeOk_v _ xs w2 hdr.slv HF.out)
  cases hsb : storeB xs
  · rw [hsb] at H1
    have HB := Lib.hid hsb
    clear hsb
    go_wp2_with fail
    refine H1.out.mono ?_
    rintro e w3 ⟨rfl, hb3⟩
    have hdr3 := hdr.next hb3
    clear hdr hb3
    have H2 := Lib.hid (storeOkS_v _ xs w3 hdr3.slv HF.out)
    rw [HB.out] at H2
    go_wp2_with fail
    refine H2.out.mono ?_
    rintro e w4 ⟨rfl, hb4⟩
    have hdr4 := hdr3.next hb4
    clear hdr3 hb4
    have H3 := Lib.hid (storeOkS_v _ xs w4 hdr4.slv HF.out)
    rw [HB.out] at H3
    go_wp2_with fail
    refine H3.out.mono ?_
    rintro e w5 ⟨rfl, hb5⟩
    have hB := (hdr4.next hb5).bel
    clear hb5 hdr4
    go_wp2_with fail
    go_ret
    exact ⟨rfl, hB⟩
  · rw [hsb] at H1
    have HB := Lib.hid hsb
    obtain rfl : n = 8 := by have := HL.out; have := storeB_len hsb; omega
    clear hsb
    go_wp2_with fail
    refine H1.out.mono ?_
    rintro e w3 ⟨rfl, hb3⟩
    have hdr3 := hdr.next hb3
    clear hdr hb3
    have H2 := Lib.hid (storeOkS_v _ xs w3 hdr3.slv HF.out)
    rw [HB.out] at H2
    go_wp2_with fail
    refine H2.out.mono ?_
    rintro e w4 ⟨rfl, hb4⟩
    have hdr4 := hdr3.next hb4
    clear hdr3 hb4
    have HD := Lib.hid hdr4
    have hcap0 := hdr4.cap0
    have hcap1 := hdr4.cap1
    clear hdr4
    go_upto_region 10 with (at_builtin; refine append_copy w4 rfl _ _ rfl rfl g off c rfl xs HD.out.sl.1 HL.out ?_; intro gx cx w5 hgx1 hgx2 hcx hsx hbx; obtain ⟨hxc, hxu⟩ := hsx.1.at0 k (by rw [HL.out]; exact hk8); have hxf := hsx.2 (k * 2); have hxg := hsx.2 (k * 2 + 1); have HX := Lib.hid (hsx.both k (by rw [HL.out]; exact hk8) ⟨#[97]⟩ 0); have HBX := Lib.hid hbx; have HG := Lib.hid hgx1; clear hsx hbx hgx1)
    obtain ⟨w6, hw6⟩ : ∃ w6, w6 = (w5.setCell ⟨gx, k * 2, none⟩ (.string ⟨#[97]⟩)).setCell ⟨gx, k * 2 + 1, none⟩ (.int .i64 0) := ⟨_, rfl⟩
    have hX6 : SlotsW w6 gx 0 (xs.set k ⟨⟨#[97]⟩, 0⟩) := by
      have := HX.out
      simp only [Nat.zero_add] at this
      rw [hw6]; exact this
    have hB6 : Below w4.heap.size w4 w6 := by rw [hw6]; exact (HBX.out.setCell HG.out _).setCell HG.out _
    have hs6 : w6.heap.size = w5.heap.size := by rw [hw6]; simp [World.setCell]
    rw [← hw6]
    clear hw6 hxc hxu hxf hxg
    have HX6 := Lib.hid hX6
    have HD6 := Lib.hid (HD.out.next hB6)
    have hgx6 : gx < w6.heap.size := by omega
    clear hX6 hB6 hs6 HX HBX HD hgx2
    go_upto_region 12 with (at_builtin; refine append_copy w6 rfl _ _ rfl rfl g off c rfl xs HD6.out.sl.1 HL.out ?_; intro gy cy w7 hgy1 hgy2 hcy hsy hby; obtain ⟨hyc, hyu⟩ := hsy.1.at0 k (by rw [HL.out]; exact hk8); have hyf := hsy.2 (k * 2); have hyg := hsy.2 (k * 2 + 1); have HY := Lib.hid (hsy.both k (by rw [HL.out]; exact hk8) ⟨#[98, 98]⟩ 1); have HBY := Lib.hid hby; have HGY := Lib.hid hgy1; clear hsy hby hgy1)
    obtain ⟨w8, hw8⟩ : ∃ w8, w8 = (w7.setCell ⟨gy, k * 2, none⟩ (.string ⟨#[98, 98]⟩)).setCell ⟨gy, k * 2 + 1, none⟩ (.int .i64 1) := ⟨_, rfl⟩
    have hY8 : SlotsW w8 gy 0 (xs.set k ⟨⟨#[98, 98]⟩, 1⟩) := by
      have := HY.out
      simp only [Nat.zero_add] at this
      rw [hw8]; exact this
    have hB8 : Below w6.heap.size w6 w8 := by rw [hw8]; exact (HBY.out.setCell HGY.out _).setCell HGY.out _
    have hs8 : w8.heap.size = w7.heap.size := by rw [hw8]; simp [World.setCell]
    rw [← hw8]
    clear hw8 hyc hyu hyf hyg
    have hl1 : (xs.set k ⟨⟨#[98, 98]⟩, 1⟩).length = 8 := by rw [List.length_set]; exact HL.out
    obtain ⟨hzc, hzu⟩ := hY8.1.at0 j (by rw [hl1]; exact hj8)
    have hzf := hY8.2 (j * 2)
    have hzg := hY8.2 (j * 2 + 1)
    have HY8 := Lib.hid hY8
    have HL1 := Lib.hid hl1
    have HD8 := Lib.hid (HD6.out.next hB8)
    have HX8 := Lib.hid (HX6.out.below hB8 hgx6)
    have hgx8 : gx < w8.heap.size := by have := hB8.size; omega
    have hxy : gx ≠ gy := by have := HGY.out; omega
    have hgg : g ≠ gy := by have := HGY.out; have := HD6.out.gs; omega
    have hnew : w.heap.size ≤ gy := by have := HGY.out; have := HD6.out.bel.size; omega
    have hgy8 : gy < w8.heap.size := by omega
    clear hY8 hl1 hB8 hs8 HY HBY HD6 HX6 hgy2 hgx6
    go_upto_region 13 with fail
    obtain ⟨w9, hw9⟩ : ∃ w9, w9 = (w8.setCell ⟨gy, j * 2, none⟩ (.string ⟨#[98, 98]⟩)).setCell ⟨gy, j * 2 + 1, none⟩ (.int .i64 1) := ⟨_, rfl⟩
    have hY9 : SlotsW w9 gy 0 ((xs.set k ⟨⟨#[98, 98]⟩, 1⟩).set j ⟨⟨#[98, 98]⟩, 1⟩) := by
      have := HY8.out.both j (by rw [HL1.out]; exact hj8) ⟨#[98, 98]⟩ 1
      simp only [Nat.zero_add] at this
      rw [hw9]; exact this
    have hg9 : w8.grownBy w9 (some gy) := by rw [hw9]; exact grownBy_trans (grownBy_setCell _ _ _) (grownBy_setCell _ _ _)
    rw [← hw9]
    have hX9 : SlotsW w9 gx 0 (xs.set k ⟨⟨#[97]⟩, 0⟩) := HX8.out.kept hg9 hgx8 (fun e => hxy (by injection e))
    have hS9 : SlotsW w9 g off xs := HD8.out.sl.kept hg9 HD8.out.gs (fun e => hgg (by injection e))
    have hB9 : Below w.heap.size w w9 := HD8.out.bel.grown hg9 HD8.out.bel.size (fun q e => by cases e; exact hnew)
    have hgx9 : gx < w9.heap.size := by have := hg9.size; omega
    have hgy9 : gy < w9.heap.size := by have := hg9.size; omega
    have hg9' : g < w9.heap.size := by have := hg9.size; have := HD8.out.gs; omega
    clear hw9 hzc hzu hzf hzg hg9
    have hc1 : ¬ c = 1 := by omega
    have hc2 : (c == 1) = false := by simp; omega
    have HX9 := Lib.hid hX9
    have HY9 := Lib.hid hY9
    have HS9 := Lib.hid hS9
    have HB9 := Lib.hid hB9
    have Hx1 : Hid (storeB (xs.set k ⟨⟨#[97]⟩, 0⟩) = false) := Lib.hid (bad_unused xs k HL.out hk8)
    have Hx2 : Hid (storeB ((xs.set k ⟨⟨#[98, 98]⟩, 1⟩).set j ⟨⟨#[98, 98]⟩, 1⟩) = false) := Lib.hid (bad_twice xs k j HL.out hk8 hj8 HKJ.out)
    have Hx3 : Hid (storeB (xs.drop 1) = false) := Lib.hid (storeB_not_len (by rw [List.length_drop, HL.out]; omega))
    have Hf1 := Lib.hid (set_fits HF.out k ⟨⟨#[97]⟩, 0⟩ (by rw [HL.out]; exact hk8) (by decide))
    have Hf2 := Lib.hid (set_fits (set_fits HF.out k ⟨⟨#[98, 98]⟩, 1⟩ (by rw [HL.out]; exact hk8) (by decide)) j ⟨⟨#[98, 98]⟩, 1⟩ (by rw [HL1.out]; exact hj8) (by decide))
    have Hf3 := Lib.hid (drop1_fits HF.out)
    have HC1 := Lib.hid (storeOk_v (.slice (some ⟨gx, 0, none⟩) 8 cx) _ w9 ⟨_, _, _, rfl, by rw [List.length_set]; exact HL.out, by omega, .inr ⟨gx, 0, rfl, hX9.1⟩⟩ Hf1.out)
    rw [Hx1.out] at HC1
    clear hX9 hY9 hS9 hB9
    go_wp2_with fail
    refine HC1.out.mono ?_
    rintro e w10 ⟨rfl, hb10⟩
    have HY10 := Lib.hid (HY9.out.below hb10 hgy9)
    have HC2 := Lib.hid (storeOk_v (.slice (some ⟨gy, 0, none⟩) 8 cy) _ w10 ⟨_, _, _, rfl, by rw [List.length_set]; exact HL1.out, by omega, .inr ⟨gy, 0, rfl, HY10.out.1⟩⟩ Hf2.out)
    rw [Hx2.out] at HC2
    have HS10 := Lib.hid (HS9.out.1.below hb10 hg9')
    have hg10 : g < w10.heap.size := by have := hb10.size; omega
    have HB10 := Lib.hid (HB9.out.trans (hb10.mono HB9.out.size))
    clear hb10
    go_wp2_with fail
    refine HC2.out.mono ?_
    rintro e w11 ⟨rfl, hb11⟩
    have HS11 := Lib.hid (slots_from1 (HS10.out.below hb11 hg10))
    have HC3 := Lib.hid (storeOk_v (.slice (some ⟨g, off + 2, none⟩) 7 (c - 1)) _ w11 ⟨_, _, _, rfl, by rw [List.length_drop, HL.out], by omega, .inr ⟨g, off + 2, rfl, HS11.out⟩⟩ Hf3.out)
    rw [Hx3.out] at HC3
    have HB11 := Lib.hid (HB10.out.trans (hb11.mono HB10.out.size))
    clear hb11
    go_wp2_with fail
    refine HC3.out.mono ?_
    rintro e w12 ⟨rfl, hb12⟩
    have hB := HB11.out.trans (hb12.mono HB11.out.size)
    clear hb12
    go_wp2_with fail
    go_ret
    exact ⟨rfl, hB⟩

set_option maxRecDepth 100000 in
theorem lifted (os : Os) (started : os.Started) (H : Type) (enc : TypeId × Value → H) :
    ReturnsInHanded {} Try.checked os 10 .any (Rows.fnStoreBadSpec.pre6 enc Try.prog Try.f10 Rows.fnStoreBadRow.domain false) (Rows.fnStoreBadSpec.post enc Try.prog Try.f10 false true false false) := by
  refine returnsInHanded_of_change (C := Try.checked) own started (by kernel_rfl) Try.func10
    (ChangeSpec.witness6 (enc := enc) (C := Try.checked) false ⟨#[], #[.slice none 0 0, .slice none 0 0], []⟩ 8 (by kernel_rfl) (by kernel_rfl) (by kernel_rfl) (by kernel_rfl)) ?_
  intro W base args ds gs before hval0 hW hcnd _
  have hval : ∀ (j : Nat) t v, Try.f10.params[j]? = some t → args[j]? = some v → Value.okWide Try.prog W .any base t v := hval0
  have hW' := hW
  obtain ⟨p, q, hA0, hV, rfl, hfz, hnd⟩ := hW
  have hA : DataW.TrodAll enc Try.prog W 0 (fun _ => true) true Try.f10.params.toList args.toList ds p := hA0
  rw [Try.params10] at hA hval
  obtain ⟨v0, vs0, d0, ds0, p0, q0, hargs, rfl, rfl, h0, r0⟩ := trodAll_cons hA
  obtain ⟨v1, vs1, d1, ds1, p1, q1, rfl, rfl, rfl, h1, r1⟩ := trodAll_cons r0
  obtain ⟨rfl, rfl, rfl⟩ := trodAll_nil r1
  obtain rfl : args = #[v0, v1] := by cases args; simp_all
  obtain ⟨rfl, rfl⟩ := trodVars_none hV
  obtain ⟨a0, len0, cap0, rfl⟩ := okWide_slice Try.underlying22 (hval 0 22 v0 rfl rfl)
  have k0 := h0
  have lt0 : ∀ x ∈ p0, x.block < W.heap.size := by obtain ⟨m, hm⟩ := k0; exact DataW.trod_lt m _ _ _ hm
  obtain ⟨z0, w0⟩ : ∃ zs, IsRow .u8 W a0 len0 cap0 zs := by
    obtain ⟨fuel, hf⟩ := h0
    rcases open_ints Try.underlying22 Try.underlying5 (by kernel_rfl) hf with ⟨hcs, _⟩ | ⟨x, l, c, zs, hcs, _, hl, hm, hz, _, hcell, hwz⟩
    · simp [Value.cells] at hcs
      obtain ⟨rfl, rfl, rfl⟩ := hcs
      exact ⟨[], .inl ⟨rfl, rfl, rfl, rfl⟩⟩
    · simp [Value.cells] at hcs
      obtain ⟨rfl, rfl, rfl⟩ := hcs
      exact ⟨zs, .inr ⟨_, rfl, hl, hm, by simpa using hz, hcell, hwz⟩⟩
  obtain ⟨a1, len1, cap1, rfl⟩ := okWide_slice Try.underlying22 (hval 1 22 v1 rfl rfl)
  have k1 := h1
  have lt1 : ∀ x ∈ p1, x.block < W.heap.size := by obtain ⟨m, hm⟩ := k1; exact DataW.trod_lt m _ _ _ hm
  obtain ⟨z1, w1⟩ : ∃ zs, IsRow .u8 W a1 len1 cap1 zs := by
    obtain ⟨fuel, hf⟩ := h1
    rcases open_ints Try.underlying22 Try.underlying5 (by kernel_rfl) hf with ⟨hcs, _⟩ | ⟨x, l, c, zs, hcs, _, hl, hm, hz, _, hcell, hwz⟩
    · simp [Value.cells] at hcs
      obtain ⟨rfl, rfl, rfl⟩ := hcs
      exact ⟨[], .inl ⟨rfl, rfl, rfl, rfl⟩⟩
    · simp [Value.cells] at hcs
      obtain ⟨rfl, rfl, rfl⟩ := hcs
      exact ⟨zs, .inr ⟨_, rfl, hl, hm, by simpa using hz, hcell, hwz⟩⟩
  clear hA0 hval0
  refine (walk W a0 len0 cap0 z0 w0 a1 len1 cap1 z1 w1).mono fun e W' ⟨he, bel⟩ => ?_
  subst he
  exact ⟨_, rfl, _, _, _, [], _, [], hW', trodAll_mk1 (shut_bool Try.underlying4 _), (trodAll_cons_mk (Below.trod laidOut (by kernel_rfl) (of_decide_eq_true (by kernel_rfl)) k0 bel lt0) (trodAll_cons_mk (Below.trod laidOut (by kernel_rfl) (of_decide_eq_true (by kernel_rfl)) k1 bel lt1) trodAll_mk0)), rfl, bel.frame _, fun h => by cases h⟩

theorem over : Rows.fnStoreBadRow.holds Try.pinned (OpenSpec.ofChange Rows.fnStoreBadSpec) :=
  OpenClaim.holds_of_wide 10 Try.f10 rfl rfl rfl rfl rfl rfl rfl ⟨rfl, rfl, rfl, rfl, rfl⟩ rfl rfl rfl rfl rfl (by kernel_rfl) Try.func10 (by kernel_rfl)
    (of_decide_eq_true (by kernel_rfl)) (by unfold Func.isWrapper; first | (rw [if_pos (by decide +kernel)]; kernel_rfl) | (rw [if_neg (by decide +kernel)]; exact ⟨rfl, rfl⟩))
    (fun os started H enc _ => lifted os started H enc)

theorem proved : Rows.FnStoreBadSaid := over
#print axioms proved
end Go.Proofs.Ytplmljbneemocaa.fnStoreBad
