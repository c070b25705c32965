/- For every two codes the law FnVolCount returns true and leaves both as they were. No condition. -/
import Derived.Test.YtgogokahpmljbaaRows
import Derived.WalkKit
import Derived.ProofKit
import Derived.OpenShut
import Derived.ShutString
import Derived.ChangeOld
import Derived.Below
import Derived.Test.YtgogokahpmljbaaHead
import Derived.Test.YtgogokahpmljbaaDrawVol
import Derived.Test.YtgogokahpmljbaaVolI
import Derived.Deep.RegionHeldLaw
import Derived.Deep.RegionHeld3
import Derived.Deep.CutRange
namespace Go.Proofs.Ytgogokahpmljbaa.fnVolCount
open Go.ChangeShapes Go.WideShapes Go.ChangeAt Go.RowKit
open Go.ChangeMaps (open_string shut_string)
set_option linter.unusedVariables false

theorem own : ownKnob Try.prog.godebug = none := by kernel_rfl
theorem laidOut : laidOutB Try.prog = true := by kernel_rfl

def IsRow (k : IntKind) (w : World) (a : Option Addr) (len cap : Nat) (zs : List Int) : Prop :=
  (a = none ∧ len = 0 ∧ cap = 0 ∧ zs = []) ∨
  ∃ x, a = some x ∧ len ≤ cap ∧ cap ≤ maxLen ∧ zs.length = cap ∧ (∀ i, i < zs.length → w.cell? (x.add i) = some (.int k (zs.getD i 0))) ∧ ∀ n ∈ zs, (Lit.int k n).wf = true

theorem ownsRow_n {W : World} {B : Nat} {a : Option Addr} {n c : Nat} {bs : List Int} (h : W.ownsRow B 3 1 (.slice a (0 + n) c) (0 + n) ([] ++ cellI bs)) : W.ownsRow B 3 1 (.slice a n c) n (cellI bs) := by simpa using h
theorem volB_app {nm : ByteArray} {bs : List Int} (h : volB ⟨nm, bs⟩ = true) (hl : bs.length ≠ 6) (x : Int) (h0 : 0 ≤ x) (h8 : x ≤ 8) : volB ⟨nm, bs ++ [x]⟩ = true := by
  obtain ⟨h1, h2, h3, h4⟩ := (volB_iff _).1 h
  refine (volB_iff _).2 ⟨fun b hb => ?_, h2, by simp, by simp only [List.length_append, List.length_singleton]; simp only at h4; omega⟩
  rcases List.mem_append.1 hb with hb | hb
  · exact h1 b hb
  · have : b = x := by simpa using hb
    omega
theorem usesF_app {nm : ByteArray} {bs : List Int} (h : volB ⟨nm, bs⟩ = true) (hl : bs.length ≠ 6) (x : Int) (h0 : 1 ≤ x) (h8 : x ≤ 8) (k : Nat) (hk : k < 8) :
    usesF ⟨nm, bs ++ [x]⟩ ((k : Int) + 1) = usesF ⟨nm, bs⟩ ((k : Int) + 1) + (if (k : Int) + 1 = x then 1 else 0) := by
  unfold usesF
  rw [volB_app h hl x (by omega) h8, h, if_pos (by simp; omega), if_pos (by simp; omega)]
  unfold usesV
  simp only [List.count_append, List.count_singleton]
  by_cases e : (k : Int) + 1 = x
  · have e2 : (x == (k : Int) + 1) = true := by simp [e]
    rw [if_pos e2, if_pos e]; push_cast; omega
  · have e2 : ¬ (x == (k : Int) + 1) = true := by simp; omega
    rw [if_neg e2, if_neg e]; push_cast; omega
theorem usesF_pos (x : Vo) (p : Int) : 0 ≤ usesF x p ∧ usesF x p ≤ x.blocks.length := by
  unfold usesF
  split
  · exact usesV_range x p
  · omega

set_option maxRecDepth 100000 in
set_option maxHeartbeats 12800000 in
theorem walk (w : World) (a0 : Option Addr) (len0 cap0 : Nat) (z0 : List Int) (w0 : IsRow .u8 w a0 len0 cap0 z0) (a1 : Option Addr) (len1 cap1 : Nat) (z1 : List Int) (w1 : IsRow .u8 w a1 len1 cap1 z1) :
    Calls Try.prog 6 #[.slice a0 len0 cap0, .slice a1 len1 cap1] w fun e w' => e = .returned (.bool true) ∧ Below w.heap.size w w' := by
  obtain ⟨hr8, hlc, hc⟩ := row8 w0
  obtain ⟨_, hlc1, hc1⟩ := row8 w1
  clear w0 w1
  by_cases hbig : (1048576 : Int) < len0
  · have d1 : decide ((1048576 : Int) < len0) = true := by simpa using hbig
    go_enter Try.func6, Try.ntmps6
    go_wp2
    go_ret
    exact ⟨rfl, Below.refl _ _⟩
  have d1 : decide ((1048576 : Int) < len0) = false := by simpa using hbig
  by_cases hbig1 : (1048576 : Int) < len1
  · have d2 : decide ((1048576 : Int) < len1) = true := by simpa using hbig1
    go_enter Try.func6, Try.ntmps6
    go_wp2
    go_ret
    exact ⟨rfl, Below.refl _ _⟩
  have d2 : decide ((1048576 : Int) < len1) = false := by simpa using hbig1
  have hd := drawVolUses_any a0 len0 cap0 w hlc hc hr8
  obtain ⟨m, hm, hm8⟩ : ∃ m : Nat, (len1 : Int) % 8 = (m : Int) ∧ m < 8 := ⟨len1 % 8, by omega, by omega⟩
  clear hr8
  go_enter Try.func6, Try.ntmps6
  go_wp2_with fail
  refine hd.mono ?_
  rintro e w2 ⟨nm, g, off, n, c, bs, p, rfl, hnm, hg1, hx, hl, hn6, hp0, hp1, hb2⟩
  clear hd
  have HSZ := Lib.hid (show nm.size ≤ maxLen by unfold maxLen; omega)
  have HL := Lib.hid hl
  have HX2 := Lib.hid (boxed_vol w2 nm (some ⟨g, off, none⟩) n c bs 25 (.inr ⟨g, off, rfl, hx⟩))
  have HB2 := Lib.hid hb2
  have HXX := Lib.hid hx
  have HG := Lib.hid hg1
  obtain ⟨U, hU⟩ : ∃ U, usesF ⟨nm, bs⟩ p = U := ⟨_, rfl⟩
  clear hg1 hx hl hb2
  have H1 := Lib.hid (fun (W : World) (q : Int) (h : BoxVol w2 nm (some ⟨g, off, none⟩) n c bs W) => volUses_any nm (some ⟨g, off, none⟩) n c bs q W HSZ.out h.ints HL.out (by omega))
  have H2 := Lib.hid (fun (W : World) (q : Int) (h : BoxVol w2 nm (some ⟨g, off, none⟩) n c bs W) => volUsesS_any nm (some ⟨g, off, none⟩) n c bs q W HSZ.out h.ints HL.out (by omega))
  have c0 := HX2.out.c0
  have c1 := HX2.out.c1
  go_wp2_with fail
  refine (H1.out _ _ HX2.out).mono ?_
  rw [hU]
  rintro e w3 ⟨rfl, hb3⟩
  have hX3 := HX2.out.next hb3
  clear hb3 c0 c1
  have c0 := hX3.c0
  have c1 := hX3.c1
  go_wp2_with fail
  refine (H2.out _ _ hX3).mono ?_
  rw [hU]
  rintro e w3' ⟨rfl, hb4⟩
  have hX4 := hX3.next hb4
  clear hb4 hX3 c0 c1
  have H3 := Lib.hid (volOkS_any nm (some ⟨g, off, none⟩) n c bs w3' HSZ.out hX4.ints HL.out (by omega))
  have c0 := hX4.c0
  have c1 := hX4.c1
  have HEND : Hid (∀ W, BoxVol w2 nm (some ⟨g, off, none⟩) n c bs W → Below w.heap.size w W) := Lib.hid (fun W h => HB2.out.trans (h.bel.mono HB2.out.size))
  cases hvb : volB ⟨nm, bs⟩
  · rw [hvb] at H3
    clear hvb
    go_wp2_with fail
    refine H3.out.mono ?_
    rintro e w5 ⟨rfl, hb5⟩
    have hX5 := hX4.next hb5
    clear hb5 hX4 c0 c1
    have c0 := hX5.c0
    have c1 := hX5.c1
    go_wp2_with fail
    refine (H2.out _ _ hX5).mono ?_
    rw [hU]
    rintro e w6 ⟨rfl, hb6⟩
    have hB := HEND.out _ (hX5.next hb6)
    clear hb6 hX5 c0 c1
    go_wp2_with fail
    go_ret
    exact ⟨rfl, hB⟩
  · rw [hvb] at H3
    have HV := Lib.hid hvb
    obtain ⟨ha, _, hn1, _⟩ := (volB_iff _).1 hvb
    have hn0 : 0 < n := by have := HL.out; simp only at hn1; omega
    clear hvb hn1 ha
    by_cases hsix : n = 6
    · subst hsix
      go_wp2_with fail
      refine H3.out.mono ?_
      rintro e w5 ⟨rfl, hb5⟩
      have hX5 := hX4.next hb5
      clear hb5 hX4 c0 c1
      have c0 := hX5.c0
      have c1 := hX5.c1
      go_wp2_with fail
      refine (H2.out _ _ hX5).mono ?_
      rw [hU]
      rintro e w6 ⟨rfl, hb6⟩
      have hB := HEND.out _ (hX5.next hb6)
      clear hb6 hX5 c0 c1
      go_wp2_with fail
      go_ret
      exact ⟨rfl, hB⟩
    have hs1 : ((n : Int) == 6) = false := by simp; omega
    have hs2 : ¬ ((n : Int) = 6) := by omega
    go_wp2_with fail
    refine H3.out.mono ?_
    rintro e w4 ⟨rfl, hb5⟩
    have HX4 := Lib.hid (hX4.next hb5)
    clear hb5 hX4 c0 c1
    have c0 := HX4.out.c0
    have c1 := HX4.out.c1
    have hm1 : IntKind.i64.wrap (1 + (m : Int)) = 1 + (m : Int) := IntWalk.i64_in _ (by omega)
    go_upto_region 8 with fail
    have HFC := Lib.hid (fun W (hb : Below w4.heap.size w4 W) => (⟨(HX4.out.next hb).c0, (HX4.out.next hb).c1, hb⟩ : W.cell? ⟨w2.heap.size, 0, none⟩ = some (.string nm) ∧ W.cell? ⟨w2.heap.size, 1, none⟩ = some (.slice (some ⟨g, off, none⟩) n c) ∧ Below w4.heap.size w4 W))
    have HNEWS := Lib.hid (fun W (hb : Below w4.heap.size w4 W) => intsAt_cells (intsAt_below (intsAt_below HXX.out HX4.out.bel HG.out) hb (by have := HX4.out.bel.size; have := HG.out; omega)))
    have hbr : Below w4.heap.size w4 w4 := Below.refl _ _
    obtain ⟨i0, hi, hz0, hz1, hz2⟩ := info_parts Try.infoI
    go_cut [9] from 49 to 62 (fun s9 W => ∃ b gi cap, s9 = .pointer (some ⟨b, 0, none⟩) ∧ CpB w4.heap.size b gi cap nm (bs ++ [1 + (m : Int)]) W ∧ Below w4.heap.size w4 W)
    case first =>
      go_region_held_law (fun W => W.cell? ⟨w2.heap.size, 0, none⟩ = some (.string nm) ∧ W.cell? ⟨w2.heap.size, 1, none⟩ = some (.slice (some ⟨g, off, none⟩) n c) ∧ Below w4.heap.size w4 W) (first | (go_split_ands; first | exact HFC.out _ (by assumption) | exact HFC.out _ (below_drew (by assumption)) | exact HFC.out _ (below_drew (hbr.alloc (by first | assumption | omega | (simp; done) | (simp; omega)) _)) | exact HFC.out _ (below_drew ((hbr.alloc (by first | assumption | omega | (simp; done) | (simp; omega)) _).alloc (by first | assumption | omega | (simp; done) | (simp; omega)) _)) | exact HFC.out _ (below_drew (((hbr.alloc (by first | assumption | omega | (simp; done) | (simp; omega)) _).alloc (by first | assumption | omega | (simp; done) | (simp; omega)) _).alloc (by first | assumption | omega | (simp; done) | (simp; omega)) _)) | exact HFC.out _ (hB5.alloc (by first | assumption | omega | (simp; done) | (simp; omega)) _) | exact HFC.out _ ((hB5.alloc (by first | assumption | omega | (simp; done) | (simp; omega)) _).alloc (by first | assumption | omega | (simp; done) | (simp; omega)) _) | exact HFC.out _ (hB6.alloc hs6 _) | exact HFC.out _ ((hB6.setCell HN6.out.lb _).setCell HN6.out.lb _) | exact HFC.out _ (((hB6.alloc hs6 _).setCell hs6 _).setCell hs6 _))) (first | (refine step_append_lies _ (by rfl) _ _ _ (by rfl) w4.heap.size 3 i0 _ 1 8 Try.underlying23 hi hz0 hz1 hz2 rfl (by omega) _ 0 [] (by rfl) (own_new (B := w4.heap.size) w4 (w4.heap.size) (by simp) (by omega)).drew ⟨g, off, none⟩ n c (cellI bs) (by rfl) (by rw [cellI_len, HL.out]; omega) (HNEWS.out _ (hbr.alloc (by first | assumption | omega | (simp; done) | (simp; omega)) _).drew) (cellI_one bs) (by omega) (by unfold maxLen; omega) (by omega) (by first | assumption | omega | (simp; done) | (simp; omega)) _ rfl ?_; intro g5 cap5 w5 hown5 hgrow hat hlt; rw [Nat.zero_add]; have hB5 := (hbr.alloc (by first | assumption | omega | (simp; done) | (simp; omega)) _).drew.grown hgrow (by first | assumption | omega | (simp; done) | (simp; omega)) (fun j e => by have e2 : w4.heap.size = j := (by simpa [Value.ownBlock] using e); omega); have hs5 := hB5.size; have hg5 : w4.heap.size ≤ g5 := (by rcases hat with hat | hat <;> first | (have e2 : w4.heap.size = g5 := (by simpa [Value.ownBlock] using hat); omega) | (simp at hat; omega)); have hl5 := hlt; have hown5 := ownsRow_n hown5; have HO5 := Lib.hid hown5; clear hown5 hgrow hat hlt) | (refine step_append_lies _ (by rfl) _ _ _ (by rfl) w4.heap.size 3 i0 _ 1 8 Try.underlying23 hi hz0 hz1 hz2 rfl (by omega) _ 0 [] (by rfl) ((own_new (B := w4.heap.size) w4 (w4.heap.size) (by simp) (by omega)).alloc _).drew ⟨g, off, none⟩ n c (cellI bs) (by rfl) (by rw [cellI_len, HL.out]; omega) (HNEWS.out _ ((hbr.alloc (by first | assumption | omega | (simp; done) | (simp; omega)) _).alloc (by first | assumption | omega | (simp; done) | (simp; omega)) _).drew) (cellI_one bs) (by omega) (by unfold maxLen; omega) (by omega) (by first | assumption | omega | (simp; done) | (simp; omega)) _ rfl ?_; intro g5 cap5 w5 hown5 hgrow hat hlt; rw [Nat.zero_add]; have hB5 := ((hbr.alloc (by first | assumption | omega | (simp; done) | (simp; omega)) _).alloc (by first | assumption | omega | (simp; done) | (simp; omega)) _).drew.grown hgrow (by first | assumption | omega | (simp; done) | (simp; omega)) (fun j e => by have e2 : w4.heap.size = j := (by simpa [Value.ownBlock] using e); omega); have hs5 := hB5.size; have hg5 : w4.heap.size ≤ g5 := (by rcases hat with hat | hat <;> first | (have e2 : w4.heap.size = g5 := (by simpa [Value.ownBlock] using hat); omega) | (simp at hat; omega)); have hl5 := hlt; have hown5 := ownsRow_n hown5; have HN := Lib.hid ((midN_new (B := w4.heap.size) (g := w4.heap.size) (w4.alloc (.cells #[] 3)) (w4.heap.size + 1) (by simp) (by omega) (by omega)).drew.grown hgrow hat); have HO5 := Lib.hid hown5; clear hown5 hgrow hat hlt) | (refine step_append_lies _ (by rfl) _ _ _ (by rfl) w4.heap.size 3 i0 _ 1 8 Try.underlying23 hi hz0 hz1 hz2 rfl (by omega) _ 0 [] (by rfl) (own_new (B := w4.heap.size) (w4.alloc (.cells #[.string ⟨#[]⟩, .slice none 0 0] 25)) (w4.heap.size + 1) (by simp) (by omega)).drew ⟨g, off, none⟩ n c (cellI bs) (by rfl) (by rw [cellI_len, HL.out]; omega) (HNEWS.out _ ((hbr.alloc (by first | assumption | omega | (simp; done) | (simp; omega)) _).alloc (by first | assumption | omega | (simp; done) | (simp; omega)) _).drew) (cellI_one bs) (by omega) (by unfold maxLen; omega) (by omega) (by first | assumption | omega | (simp; done) | (simp; omega)) _ rfl ?_; intro g5 cap5 w5 hown5 hgrow hat hlt; rw [Nat.zero_add]; have hB5 := ((hbr.alloc (by first | assumption | omega | (simp; done) | (simp; omega)) _).alloc (by first | assumption | omega | (simp; done) | (simp; omega)) _).drew.grown hgrow (by first | assumption | omega | (simp; done) | (simp; omega)) (fun j e => by have e2 : w4.heap.size + 1 = j := (by simpa [Value.ownBlock] using e); omega); have hs5 := hB5.size; have hg5 : w4.heap.size ≤ g5 := (by rcases hat with hat | hat <;> first | (have e2 : w4.heap.size + 1 = g5 := (by simpa [Value.ownBlock] using hat); omega) | (simp at hat; omega)); have hl5 := hlt; have hown5 := ownsRow_n hown5; have HN := Lib.hid (((midN_new (B := w4.heap.size) (g := w4.heap.size + 1) w4 (w4.heap.size) (by simp) (by omega) (by omega)).alloc _).drew.grown hgrow hat); have HO5 := Lib.hid hown5; clear hown5 hgrow hat hlt) | (refine step_append_lies _ (by rfl) _ _ _ (by rfl) w4.heap.size 3 i0 _ 1 8 Try.underlying23 hi hz0 hz1 hz2 rfl (by omega) _ 0 [] (by rfl) ((own_new (B := w4.heap.size) w4 (w4.heap.size) (by simp) (by omega)).alloc _).drew ⟨g, off, none⟩ n c (cellI bs) (by rfl) (by rw [cellI_len, HL.out]; omega) (HNEWS.out _ ((hbr.alloc (by first | assumption | omega | (simp; done) | (simp; omega)) _).alloc (by first | assumption | omega | (simp; done) | (simp; omega)) _).drew) (cellI_one bs) (by omega) (by unfold maxLen; omega) (by omega) (by first | assumption | omega | (simp; done) | (simp; omega)) _ rfl ?_; intro g5 cap5 w5 hown5 hgrow hat hlt; rw [Nat.zero_add]; have hB5 := ((hbr.alloc (by first | assumption | omega | (simp; done) | (simp; omega)) _).alloc (by first | assumption | omega | (simp; done) | (simp; omega)) _).drew.grown hgrow (by first | assumption | omega | (simp; done) | (simp; omega)) (fun j e => by have e2 : w4.heap.size = j := (by simpa [Value.ownBlock] using e); omega); have hs5 := hB5.size; have hg5 : w4.heap.size ≤ g5 := (by rcases hat with hat | hat <;> first | (have e2 : w4.heap.size = g5 := (by simpa [Value.ownBlock] using hat); omega) | (simp at hat; omega)); have hl5 := hlt; have hown5 := ownsRow_n hown5; have HS := Lib.hid ((midS_new (z := 1 + (m : Int)) (g := w4.heap.size) (w4.alloc (.cells #[] 3)) (w4.heap.size + 1) (by simp) (by omega)).drew.grown hgrow hat); have HO5 := Lib.hid hown5; clear hown5 hgrow hat hlt) | (refine step_append_lies _ (by rfl) _ _ _ (by rfl) w4.heap.size 3 i0 _ 1 8 Try.underlying23 hi hz0 hz1 hz2 rfl (by omega) _ 0 [] (by rfl) (own_new (B := w4.heap.size) (w4.alloc (.cells #[.int .i64 (1 + (m : Int))] 3)) (w4.heap.size + 1) (by simp) (by omega)).drew ⟨g, off, none⟩ n c (cellI bs) (by rfl) (by rw [cellI_len, HL.out]; omega) (HNEWS.out _ ((hbr.alloc (by first | assumption | omega | (simp; done) | (simp; omega)) _).alloc (by first | assumption | omega | (simp; done) | (simp; omega)) _).drew) (cellI_one bs) (by omega) (by unfold maxLen; omega) (by omega) (by first | assumption | omega | (simp; done) | (simp; omega)) _ rfl ?_; intro g5 cap5 w5 hown5 hgrow hat hlt; rw [Nat.zero_add]; have hB5 := ((hbr.alloc (by first | assumption | omega | (simp; done) | (simp; omega)) _).alloc (by first | assumption | omega | (simp; done) | (simp; omega)) _).drew.grown hgrow (by first | assumption | omega | (simp; done) | (simp; omega)) (fun j e => by have e2 : w4.heap.size + 1 = j := (by simpa [Value.ownBlock] using e); omega); have hs5 := hB5.size; have hg5 : w4.heap.size ≤ g5 := (by rcases hat with hat | hat <;> first | (have e2 : w4.heap.size + 1 = g5 := (by simpa [Value.ownBlock] using hat); omega) | (simp at hat; omega)); have hl5 := hlt; have hown5 := ownsRow_n hown5; have HS := Lib.hid (((midS_new (z := 1 + (m : Int)) (g := w4.heap.size + 1) w4 (w4.heap.size) (by simp) (by omega)).alloc _).drew.grown hgrow hat); have HO5 := Lib.hid hown5; clear hown5 hgrow hat hlt) | (refine step_append_lies _ (by rfl) _ _ _ (by rfl) w4.heap.size 3 i0 _ 1 8 Try.underlying23 hi hz0 hz1 hz2 rfl (by omega) _ 0 [] (by rfl) (((own_new (B := w4.heap.size) w4 (w4.heap.size) (by simp) (by omega)).alloc _).alloc _).drew ⟨g, off, none⟩ n c (cellI bs) (by rfl) (by rw [cellI_len, HL.out]; omega) (HNEWS.out _ (((hbr.alloc (by first | assumption | omega | (simp; done) | (simp; omega)) _).alloc (by first | assumption | omega | (simp; done) | (simp; omega)) _).alloc (by first | assumption | omega | (simp; done) | (simp; omega)) _).drew) (cellI_one bs) (by omega) (by unfold maxLen; omega) (by omega) (by first | assumption | omega | (simp; done) | (simp; omega)) _ rfl ?_; intro g5 cap5 w5 hown5 hgrow hat hlt; rw [Nat.zero_add]; have hB5 := (((hbr.alloc (by first | assumption | omega | (simp; done) | (simp; omega)) _).alloc (by first | assumption | omega | (simp; done) | (simp; omega)) _).alloc (by first | assumption | omega | (simp; done) | (simp; omega)) _).drew.grown hgrow (by first | assumption | omega | (simp; done) | (simp; omega)) (fun j e => by have e2 : w4.heap.size = j := (by simpa [Value.ownBlock] using e); omega); have hs5 := hB5.size; have hg5 : w4.heap.size ≤ g5 := (by rcases hat with hat | hat <;> first | (have e2 : w4.heap.size = g5 := (by simpa [Value.ownBlock] using hat); omega) | (simp at hat; omega)); have hl5 := hlt; have hown5 := ownsRow_n hown5; have HN := Lib.hid (((midN_new (B := w4.heap.size) (g := w4.heap.size) (w4.alloc (.cells #[] 3)) (w4.heap.size + 1) (by simp) (by omega) (by omega)).alloc _).drew.grown hgrow hat); have HS := Lib.hid ((midS_new (z := 1 + (m : Int)) (g := w4.heap.size) ((w4.alloc (.cells #[] 3)).alloc (.cells #[.string ⟨#[]⟩, .slice none 0 0] 25)) (w4.heap.size + 1 + 1) (by simp) (by omega)).drew.grown hgrow hat); have HO5 := Lib.hid hown5; clear hown5 hgrow hat hlt) | (refine step_append_lies _ (by rfl) _ _ _ (by rfl) w4.heap.size 3 i0 _ 1 8 Try.underlying23 hi hz0 hz1 hz2 rfl (by omega) _ 0 [] (by rfl) ((own_new (B := w4.heap.size) (w4.alloc (.cells #[.string ⟨#[]⟩, .slice none 0 0] 25)) (w4.heap.size + 1) (by simp) (by omega)).alloc _).drew ⟨g, off, none⟩ n c (cellI bs) (by rfl) (by rw [cellI_len, HL.out]; omega) (HNEWS.out _ (((hbr.alloc (by first | assumption | omega | (simp; done) | (simp; omega)) _).alloc (by first | assumption | omega | (simp; done) | (simp; omega)) _).alloc (by first | assumption | omega | (simp; done) | (simp; omega)) _).drew) (cellI_one bs) (by omega) (by unfold maxLen; omega) (by omega) (by first | assumption | omega | (simp; done) | (simp; omega)) _ rfl ?_; intro g5 cap5 w5 hown5 hgrow hat hlt; rw [Nat.zero_add]; have hB5 := (((hbr.alloc (by first | assumption | omega | (simp; done) | (simp; omega)) _).alloc (by first | assumption | omega | (simp; done) | (simp; omega)) _).alloc (by first | assumption | omega | (simp; done) | (simp; omega)) _).drew.grown hgrow (by first | assumption | omega | (simp; done) | (simp; omega)) (fun j e => by have e2 : w4.heap.size + 1 = j := (by simpa [Value.ownBlock] using e); omega); have hs5 := hB5.size; have hg5 : w4.heap.size ≤ g5 := (by rcases hat with hat | hat <;> first | (have e2 : w4.heap.size + 1 = g5 := (by simpa [Value.ownBlock] using hat); omega) | (simp at hat; omega)); have hl5 := hlt; have hown5 := ownsRow_n hown5; have HN := Lib.hid ((((midN_new (B := w4.heap.size) (g := w4.heap.size + 1) w4 (w4.heap.size) (by simp) (by omega) (by omega)).alloc _).alloc _).drew.grown hgrow hat); have HS := Lib.hid ((midS_new (z := 1 + (m : Int)) (g := w4.heap.size + 1) ((w4.alloc (.cells #[.string ⟨#[]⟩, .slice none 0 0] 25)).alloc (.cells #[] 3)) (w4.heap.size + 1 + 1) (by simp) (by omega)).drew.grown hgrow hat); have HO5 := Lib.hid hown5; clear hown5 hgrow hat hlt) | (refine step_append_lies _ (by rfl) _ _ _ (by rfl) w4.heap.size 3 i0 _ 1 8 Try.underlying23 hi hz0 hz1 hz2 rfl (by omega) _ 0 [] (by rfl) (own_new (B := w4.heap.size) ((w4.alloc (.cells #[.string ⟨#[]⟩, .slice none 0 0] 25)).alloc (.cells #[.int .i64 (1 + (m : Int))] 3)) (w4.heap.size + 1 + 1) (by simp) (by omega)).drew ⟨g, off, none⟩ n c (cellI bs) (by rfl) (by rw [cellI_len, HL.out]; omega) (HNEWS.out _ (((hbr.alloc (by first | assumption | omega | (simp; done) | (simp; omega)) _).alloc (by first | assumption | omega | (simp; done) | (simp; omega)) _).alloc (by first | assumption | omega | (simp; done) | (simp; omega)) _).drew) (cellI_one bs) (by omega) (by unfold maxLen; omega) (by omega) (by first | assumption | omega | (simp; done) | (simp; omega)) _ rfl ?_; intro g5 cap5 w5 hown5 hgrow hat hlt; rw [Nat.zero_add]; have hB5 := (((hbr.alloc (by first | assumption | omega | (simp; done) | (simp; omega)) _).alloc (by first | assumption | omega | (simp; done) | (simp; omega)) _).alloc (by first | assumption | omega | (simp; done) | (simp; omega)) _).drew.grown hgrow (by first | assumption | omega | (simp; done) | (simp; omega)) (fun j e => by have e2 : w4.heap.size + 1 + 1 = j := (by simpa [Value.ownBlock] using e); omega); have hs5 := hB5.size; have hg5 : w4.heap.size ≤ g5 := (by rcases hat with hat | hat <;> first | (have e2 : w4.heap.size + 1 + 1 = g5 := (by simpa [Value.ownBlock] using hat); omega) | (simp at hat; omega)); have hl5 := hlt; have hown5 := ownsRow_n hown5; have HN := Lib.hid ((((midN_new (B := w4.heap.size) (g := w4.heap.size + 1 + 1) w4 (w4.heap.size) (by simp) (by omega) (by omega)).alloc _).alloc _).drew.grown hgrow hat); have HS := Lib.hid (((midS_new (z := 1 + (m : Int)) (g := w4.heap.size + 1 + 1) (w4.alloc (.cells #[.string ⟨#[]⟩, .slice none 0 0] 25)) (w4.heap.size + 1) (by simp) (by omega)).alloc _).drew.grown hgrow hat); have HO5 := Lib.hid hown5; clear hown5 hgrow hat hlt) | (refine step_append_lies _ (by rfl) _ _ _ (by rfl) w4.heap.size 3 i0 _ 1 8 Try.underlying23 hi hz0 hz1 hz2 rfl (by omega) _ 0 [] (by rfl) (((own_new (B := w4.heap.size) w4 (w4.heap.size) (by simp) (by omega)).alloc _).alloc _).drew ⟨g, off, none⟩ n c (cellI bs) (by rfl) (by rw [cellI_len, HL.out]; omega) (HNEWS.out _ (((hbr.alloc (by first | assumption | omega | (simp; done) | (simp; omega)) _).alloc (by first | assumption | omega | (simp; done) | (simp; omega)) _).alloc (by first | assumption | omega | (simp; done) | (simp; omega)) _).drew) (cellI_one bs) (by omega) (by unfold maxLen; omega) (by omega) (by first | assumption | omega | (simp; done) | (simp; omega)) _ rfl ?_; intro g5 cap5 w5 hown5 hgrow hat hlt; rw [Nat.zero_add]; have hB5 := (((hbr.alloc (by first | assumption | omega | (simp; done) | (simp; omega)) _).alloc (by first | assumption | omega | (simp; done) | (simp; omega)) _).alloc (by first | assumption | omega | (simp; done) | (simp; omega)) _).drew.grown hgrow (by first | assumption | omega | (simp; done) | (simp; omega)) (fun j e => by have e2 : w4.heap.size = j := (by simpa [Value.ownBlock] using e); omega); have hs5 := hB5.size; have hg5 : w4.heap.size ≤ g5 := (by rcases hat with hat | hat <;> first | (have e2 : w4.heap.size = g5 := (by simpa [Value.ownBlock] using hat); omega) | (simp at hat; omega)); have hl5 := hlt; have hown5 := ownsRow_n hown5; have HN := Lib.hid ((midN_new (B := w4.heap.size) (g := w4.heap.size) ((w4.alloc (.cells #[] 3)).alloc (.cells #[.int .i64 (1 + (m : Int))] 3)) (w4.heap.size + 1 + 1) (by simp) (by omega) (by omega)).drew.grown hgrow hat); have HS := Lib.hid (((midS_new (z := 1 + (m : Int)) (g := w4.heap.size) (w4.alloc (.cells #[] 3)) (w4.heap.size + 1) (by simp) (by omega)).alloc _).drew.grown hgrow hat); have HO5 := Lib.hid hown5; clear hown5 hgrow hat hlt) | (refine step_append_lies _ (by rfl) _ _ _ (by rfl) w4.heap.size 3 i0 _ 1 8 Try.underlying23 hi hz0 hz1 hz2 rfl (by omega) _ 0 [] (by rfl) ((own_new (B := w4.heap.size) (w4.alloc (.cells #[.int .i64 (1 + (m : Int))] 3)) (w4.heap.size + 1) (by simp) (by omega)).alloc _).drew ⟨g, off, none⟩ n c (cellI bs) (by rfl) (by rw [cellI_len, HL.out]; omega) (HNEWS.out _ (((hbr.alloc (by first | assumption | omega | (simp; done) | (simp; omega)) _).alloc (by first | assumption | omega | (simp; done) | (simp; omega)) _).alloc (by first | assumption | omega | (simp; done) | (simp; omega)) _).drew) (cellI_one bs) (by omega) (by unfold maxLen; omega) (by omega) (by first | assumption | omega | (simp; done) | (simp; omega)) _ rfl ?_; intro g5 cap5 w5 hown5 hgrow hat hlt; rw [Nat.zero_add]; have hB5 := (((hbr.alloc (by first | assumption | omega | (simp; done) | (simp; omega)) _).alloc (by first | assumption | omega | (simp; done) | (simp; omega)) _).alloc (by first | assumption | omega | (simp; done) | (simp; omega)) _).drew.grown hgrow (by first | assumption | omega | (simp; done) | (simp; omega)) (fun j e => by have e2 : w4.heap.size + 1 = j := (by simpa [Value.ownBlock] using e); omega); have hs5 := hB5.size; have hg5 : w4.heap.size ≤ g5 := (by rcases hat with hat | hat <;> first | (have e2 : w4.heap.size + 1 = g5 := (by simpa [Value.ownBlock] using hat); omega) | (simp at hat; omega)); have hl5 := hlt; have hown5 := ownsRow_n hown5; have HN := Lib.hid ((midN_new (B := w4.heap.size) (g := w4.heap.size + 1) ((w4.alloc (.cells #[.int .i64 (1 + (m : Int))] 3)).alloc (.cells #[] 3)) (w4.heap.size + 1 + 1) (by simp) (by omega) (by omega)).drew.grown hgrow hat); have HS := Lib.hid ((((midS_new (z := 1 + (m : Int)) (g := w4.heap.size + 1) w4 (w4.heap.size) (by simp) (by omega)).alloc _).alloc _).drew.grown hgrow hat); have HO5 := Lib.hid hown5; clear hown5 hgrow hat hlt) | (refine step_append_lies _ (by rfl) _ _ _ (by rfl) w4.heap.size 3 i0 _ 1 8 Try.underlying23 hi hz0 hz1 hz2 rfl (by omega) _ 0 [] (by rfl) (own_new (B := w4.heap.size) ((w4.alloc (.cells #[.int .i64 (1 + (m : Int))] 3)).alloc (.cells #[.string ⟨#[]⟩, .slice none 0 0] 25)) (w4.heap.size + 1 + 1) (by simp) (by omega)).drew ⟨g, off, none⟩ n c (cellI bs) (by rfl) (by rw [cellI_len, HL.out]; omega) (HNEWS.out _ (((hbr.alloc (by first | assumption | omega | (simp; done) | (simp; omega)) _).alloc (by first | assumption | omega | (simp; done) | (simp; omega)) _).alloc (by first | assumption | omega | (simp; done) | (simp; omega)) _).drew) (cellI_one bs) (by omega) (by unfold maxLen; omega) (by omega) (by first | assumption | omega | (simp; done) | (simp; omega)) _ rfl ?_; intro g5 cap5 w5 hown5 hgrow hat hlt; rw [Nat.zero_add]; have hB5 := (((hbr.alloc (by first | assumption | omega | (simp; done) | (simp; omega)) _).alloc (by first | assumption | omega | (simp; done) | (simp; omega)) _).alloc (by first | assumption | omega | (simp; done) | (simp; omega)) _).drew.grown hgrow (by first | assumption | omega | (simp; done) | (simp; omega)) (fun j e => by have e2 : w4.heap.size + 1 + 1 = j := (by simpa [Value.ownBlock] using e); omega); have hs5 := hB5.size; have hg5 : w4.heap.size ≤ g5 := (by rcases hat with hat | hat <;> first | (have e2 : w4.heap.size + 1 + 1 = g5 := (by simpa [Value.ownBlock] using hat); omega) | (simp at hat; omega)); have hl5 := hlt; have hown5 := ownsRow_n hown5; have HN := Lib.hid (((midN_new (B := w4.heap.size) (g := w4.heap.size + 1 + 1) (w4.alloc (.cells #[.int .i64 (1 + (m : Int))] 3)) (w4.heap.size + 1) (by simp) (by omega) (by omega)).alloc _).drew.grown hgrow hat); have HS := Lib.hid ((((midS_new (z := 1 + (m : Int)) (g := w4.heap.size + 1 + 1) w4 (w4.heap.size) (by simp) (by omega)).alloc _).alloc _).drew.grown hgrow hat); have HO5 := Lib.hid hown5; clear hown5 hgrow hat hlt) | (refine step_append_lies _ (by rfl) _ _ _ (by rfl) w4.heap.size 3 i0 _ 1 8 Try.underlying23 hi hz0 hz1 hz2 rfl (by omega) _ n (cellI bs) (by rfl) HO5.out ⟨_, 0, none⟩ 1 1 (cellI [1 + (m : Int)]) (by rfl) (by rfl) HS.out.news (cellI_one _) (by omega) (by unfold maxLen; omega) (by omega) (by first | assumption | omega | (simp; done) | (simp; omega)) _ rfl ?_; intro g6 cap6 w6 hown6 hgrow hat hlt; have hB6 := hB5.grown hgrow (by first | assumption | omega | (simp; done) | (simp; omega)) (fun j e => by have e2 : g5 = j := (by simpa [Value.ownBlock] using e); omega); have hs6 := hB6.size; have HN6 := Lib.hid (HN.out.grown hgrow hat); have e0 := HN6.out.c0; have e1 := HN6.out.c1; have f0 := HN6.out.f0; have f1 := HN6.out.f1; have HOW := Lib.hid (ownBlk_of (bs := bs ++ [1 + (m : Int)]) (by simpa [cellI] using hown6) (by omega) (by simp [HL.out])); clear hown6 hgrow hat hlt) | (refine step_append_lies _ (by rfl) _ _ _ (by rfl) w4.heap.size 3 i0 _ 1 8 Try.underlying23 hi hz0 hz1 hz2 rfl (by omega) _ n (cellI bs) (by rfl) (HO5.out.alloc _) ⟨_, 0, none⟩ 1 1 (cellI [1 + (m : Int)]) (by rfl) (by rfl) (midS_new (z := 1 + (m : Int)) (g := g5) w5 (w5.heap.size) (by simp) (by have := hl5; omega)).news (cellI_one _) (by omega) (by unfold maxLen; omega) (by omega) (by first | assumption | omega | (simp; done) | (simp; omega)) _ rfl ?_; intro g6 cap6 w6 hown6 hgrow hat hlt; have hB6 := (hB5.alloc (by first | assumption | omega | (simp; done) | (simp; omega)) _).grown hgrow (by first | assumption | omega | (simp; done) | (simp; omega)) (fun j e => by have e2 : g5 = j := (by simpa [Value.ownBlock] using e); omega); have hs6 := hB6.size; have HN6 := Lib.hid ((HN.out.alloc _).grown hgrow hat); have e0 := HN6.out.c0; have e1 := HN6.out.c1; have f0 := HN6.out.f0; have f1 := HN6.out.f1; have HOW := Lib.hid (ownBlk_of (bs := bs ++ [1 + (m : Int)]) (by simpa [cellI] using hown6) (by omega) (by simp [HL.out])); clear hown6 hgrow hat hlt) | (refine step_append_lies _ (by rfl) _ _ _ (by rfl) w4.heap.size 3 i0 _ 1 8 Try.underlying23 hi hz0 hz1 hz2 rfl (by omega) _ n (cellI bs) (by rfl) HO5.out ⟨_, 0, none⟩ 1 1 (cellI [1 + (m : Int)]) (by rfl) (by rfl) HS.out.news (cellI_one _) (by omega) (by unfold maxLen; omega) (by omega) (by first | assumption | omega | (simp; done) | (simp; omega)) _ rfl ?_; intro g6 cap6 w6 hown6 hgrow hat hlt; have hB6 := hB5.grown hgrow (by first | assumption | omega | (simp; done) | (simp; omega)) (fun j e => by have e2 : g5 = j := (by simpa [Value.ownBlock] using e); omega); have hs6 := hB6.size; have HOW := Lib.hid (ownBlk_of (bs := bs ++ [1 + (m : Int)]) (by simpa [cellI] using hown6) (by omega) (by simp [HL.out])); clear hown6 hgrow hat hlt) | (refine step_append_lies _ (by rfl) _ _ _ (by rfl) w4.heap.size 3 i0 _ 1 8 Try.underlying23 hi hz0 hz1 hz2 rfl (by omega) _ n (cellI bs) (by rfl) (HO5.out.alloc _) ⟨_, 0, none⟩ 1 1 (cellI [1 + (m : Int)]) (by rfl) (by rfl) (HS.out.alloc _).news (cellI_one _) (by omega) (by unfold maxLen; omega) (by omega) (by first | assumption | omega | (simp; done) | (simp; omega)) _ rfl ?_; intro g6 cap6 w6 hown6 hgrow hat hlt; have hB6 := (hB5.alloc (by first | assumption | omega | (simp; done) | (simp; omega)) _).grown hgrow (by first | assumption | omega | (simp; done) | (simp; omega)) (fun j e => by have e2 : g5 = j := (by simpa [Value.ownBlock] using e); omega); have hs6 := hB6.size; have HN6 := Lib.hid ((midN_new (B := w4.heap.size) (g := g5) w5 (w5.heap.size) (by simp) (by omega) (by have := hl5; omega)).grown hgrow hat); have e0 := HN6.out.c0; have e1 := HN6.out.c1; have f0 := HN6.out.f0; have f1 := HN6.out.f1; have HOW := Lib.hid (ownBlk_of (bs := bs ++ [1 + (m : Int)]) (by simpa [cellI] using hown6) (by omega) (by simp [HL.out])); clear hown6 hgrow hat hlt) | (refine step_append_lies _ (by rfl) _ _ _ (by rfl) w4.heap.size 3 i0 _ 1 8 Try.underlying23 hi hz0 hz1 hz2 rfl (by omega) _ n (cellI bs) (by rfl) (HO5.out.alloc _) ⟨_, 0, none⟩ 1 1 (cellI [1 + (m : Int)]) (by rfl) (by rfl) (midS_new (z := 1 + (m : Int)) (g := g5) w5 (w5.heap.size) (by simp) (by have := hl5; omega)).news (cellI_one _) (by omega) (by unfold maxLen; omega) (by omega) (by first | assumption | omega | (simp; done) | (simp; omega)) _ rfl ?_; intro g6 cap6 w6 hown6 hgrow hat hlt; have hB6 := (hB5.alloc (by first | assumption | omega | (simp; done) | (simp; omega)) _).grown hgrow (by first | assumption | omega | (simp; done) | (simp; omega)) (fun j e => by have e2 : g5 = j := (by simpa [Value.ownBlock] using e); omega); have hs6 := hB6.size; have HOW := Lib.hid (ownBlk_of (bs := bs ++ [1 + (m : Int)]) (by simpa [cellI] using hown6) (by omega) (by simp [HL.out])); clear hown6 hgrow hat hlt) | (refine step_append_lies _ (by rfl) _ _ _ (by rfl) w4.heap.size 3 i0 _ 1 8 Try.underlying23 hi hz0 hz1 hz2 rfl (by omega) _ n (cellI bs) (by rfl) ((HO5.out.alloc _).alloc _) ⟨_, 0, none⟩ 1 1 (cellI [1 + (m : Int)]) (by rfl) (by rfl) (midS_new (z := 1 + (m : Int)) (g := g5) (w5.alloc (.cells #[.string ⟨#[]⟩, .slice none 0 0] 25)) (w5.heap.size + 1) (by simp) (by have := hl5; omega)).news (cellI_one _) (by omega) (by unfold maxLen; omega) (by omega) (by first | assumption | omega | (simp; done) | (simp; omega)) _ rfl ?_; intro g6 cap6 w6 hown6 hgrow hat hlt; have hB6 := ((hB5.alloc (by first | assumption | omega | (simp; done) | (simp; omega)) _).alloc (by first | assumption | omega | (simp; done) | (simp; omega)) _).grown hgrow (by first | assumption | omega | (simp; done) | (simp; omega)) (fun j e => by have e2 : g5 = j := (by simpa [Value.ownBlock] using e); omega); have hs6 := hB6.size; have HN6 := Lib.hid (((midN_new (B := w4.heap.size) (g := g5) w5 (w5.heap.size) (by simp) (by omega) (by have := hl5; omega)).alloc _).grown hgrow hat); have e0 := HN6.out.c0; have e1 := HN6.out.c1; have f0 := HN6.out.f0; have f1 := HN6.out.f1; have HOW := Lib.hid (ownBlk_of (bs := bs ++ [1 + (m : Int)]) (by simpa [cellI] using hown6) (by omega) (by simp [HL.out])); clear hown6 hgrow hat hlt) | (refine step_append_lies _ (by rfl) _ _ _ (by rfl) w4.heap.size 3 i0 _ 1 8 Try.underlying23 hi hz0 hz1 hz2 rfl (by omega) _ n (cellI bs) (by rfl) ((HO5.out.alloc _).alloc _) ⟨_, 0, none⟩ 1 1 (cellI [1 + (m : Int)]) (by rfl) (by rfl) ((midS_new (z := 1 + (m : Int)) (g := g5) w5 (w5.heap.size) (by simp) (by have := hl5; omega)).alloc _).news (cellI_one _) (by omega) (by unfold maxLen; omega) (by omega) (by first | assumption | omega | (simp; done) | (simp; omega)) _ rfl ?_; intro g6 cap6 w6 hown6 hgrow hat hlt; have hB6 := ((hB5.alloc (by first | assumption | omega | (simp; done) | (simp; omega)) _).alloc (by first | assumption | omega | (simp; done) | (simp; omega)) _).grown hgrow (by first | assumption | omega | (simp; done) | (simp; omega)) (fun j e => by have e2 : g5 = j := (by simpa [Value.ownBlock] using e); omega); have hs6 := hB6.size; have HN6 := Lib.hid ((midN_new (B := w4.heap.size) (g := g5) (w5.alloc (.cells #[.int .i64 (1 + (m : Int))] 3)) (w5.heap.size + 1) (by simp) (by omega) (by have := hl5; omega)).grown hgrow hat); have e0 := HN6.out.c0; have e1 := HN6.out.c1; have f0 := HN6.out.f0; have f1 := HN6.out.f1; have HOW := Lib.hid (ownBlk_of (bs := bs ++ [1 + (m : Int)]) (by simpa [cellI] using hown6) (by omega) (by simp [HL.out])); clear hown6 hgrow hat hlt))
      all_goals (go_wp2_with fail; go_meet; case rel => (first
        | exact ⟨_, _, _, rfl, cpB_made (n := n + 1) (by simp [HL.out]) HN6.out.lb HN6.out.lt HOW.out (Ne.symm HN6.out.ne) HN6.out.c0 HN6.out.c1, (hB6.setCell HN6.out.lb _).setCell HN6.out.lb _⟩
        | exact ⟨_, _, _, rfl, cpB_alloc (n := n + 1) (by simp [HL.out]) hs6 HOW.out, hB6.alloc hs6 _⟩))
    case rest =>
      obtain ⟨bx, gx, cx, rfl, hpx, hbx⟩ := hcut
      have HX8 := Lib.hid (HX4.out.next hbx)
      have HP := Lib.hid hpx
      have HXU := Lib.hid (fun (W : World) (q : Int) (h : CpB w4.heap.size bx gx cx nm (bs ++ [1 + (m : Int)]) W) => volUses_any nm (some ⟨gx, 0, none⟩) (n + 1) cx (bs ++ [1 + (m : Int)]) q W HSZ.out (.inr ⟨gx, 0, rfl, h.own.1⟩) (by simp [HL.out]) (by omega))
      have HLL : Hid ((bs ++ [1 + (m : Int)]).length = n + 1) := Lib.hid (by simp [HL.out])
      have HAPP := Lib.hid (fun k hk => usesF_app HV.out (by rw [HL.out]; exact hsix) (1 + (m : Int)) (by omega) (by omega) k hk)
      clear hpx hbx c0 c1
      go_wp2_with fail
      go_loopw [10, 11] (fun i o wr => ∃ k : Nat, k ≤ 8 ∧ i = .int .i64 ((k : Int) + 1) ∧ CpB w4.heap.size bx gx cx nm (bs ++ [1 + (m : Int)]) wr ∧ BoxVol w2 nm (some ⟨g, off, none⟩) n c bs wr) (fun i o _ => 9 - (intOf i).toNat)
      case atStart => exact ⟨0, by omega, rfl, HP.out, HX8.out⟩
      case round =>
        obtain ⟨k, hk, rfl, hP, hX⟩ := hrel
        by_cases hlt : k < 8
        · have hap := HAPP.out k hlt
          obtain ⟨V, hV⟩ : ∃ V, usesF ⟨nm, bs⟩ ((k : Int) + 1) = V := ⟨_, rfl⟩
          have hV0 : 0 ≤ V ∧ V ≤ 6 := by have := usesF_pos ⟨nm, bs⟩ ((k : Int) + 1); rw [hV] at this; have h2 := HL.out; simp only at this; omega
          rw [hV] at hap
          have HK := Lib.hid (fun W (hb : Below wr.heap.size wr W) => (⟨(hP.next hb).c0, by have := (hP.next hb).c1; rw [HLL.out] at this; exact this, (hX.next hb).c0, (hX.next hb).c1, hb⟩ :
            W.cell? ⟨bx, 0, none⟩ = some (.string nm) ∧ W.cell? ⟨bx, 1, none⟩ = some (.slice (some ⟨gx, 0, none⟩) (n + 1) cx) ∧ W.cell? ⟨w2.heap.size, 0, none⟩ = some (.string nm) ∧ W.cell? ⟨w2.heap.size, 1, none⟩ = some (.slice (some ⟨g, off, none⟩) n c) ∧ Below wr.heap.size wr W))
          have HCX := Lib.hid (fun W (hb : Below wr.heap.size wr W) => HXU.out W ((k : Int) + 1) (hP.next hb))
          have HCV := Lib.hid (fun W (hb : Below wr.heap.size wr W) => H1.out W ((k : Int) + 1) (hX.next hb))
          simp only [hV] at HCV
          have HNX := Lib.hid (fun W (hb : Below wr.heap.size wr W) => (⟨hP.next hb, hX.next hb⟩ : CpB w4.heap.size bx gx cx nm (bs ++ [1 + (m : Int)]) W ∧ BoxVol w2 nm (some ⟨g, off, none⟩) n c bs W))
          have hbr : Below wr.heap.size wr wr := Below.refl _ _
          clear hP hX
          by_cases hat : (k : Int) + 1 = 1 + (m : Int)
          · rw [if_pos hat] at hap
            simp only [hap] at HCX
            have e1 : IntKind.i64.wrap (V + 1) = V + 1 := IntWalk.i64_in _ (by omega)
            have q1 : ((k : Int) + 1 == 1 + (m : Int)) = true := by simpa using hat
            clear hap hV hat
            go_upto_region 15 with fail
            go_region_held3 (fun W => W.cell? ⟨bx, 0, none⟩ = some (.string nm) ∧ W.cell? ⟨bx, 1, none⟩ = some (.slice (some ⟨gx, 0, none⟩) (n + 1) cx) ∧ W.cell? ⟨w2.heap.size, 0, none⟩ = some (.string nm) ∧ W.cell? ⟨w2.heap.size, 1, none⟩ = some (.slice (some ⟨g, off, none⟩) n c) ∧ Below wr.heap.size wr W) (first | (go_split_ands; first | exact HK.out _ (by assumption) | exact HK.out _ (below_drew (by assumption))))
              (first
                | (go_split_ands; go_at_call_of 8 gx; refine (HCX.out _ (by assumption)).mono ?_; rintro e w9 ⟨rfl, hb⟩; have hb9 := bnext (by assumption : Below wr.heap.size wr _) hb; clear hb)
                | (go_split_ands; go_at_call_of 8 g; refine (HCV.out _ (by assumption)).mono ?_; rintro e w9 ⟨rfl, hb⟩; have hb9 := bnext (by assumption : Below wr.heap.size wr _) hb; clear hb))
            have hN := HNX.out _ (by go_split_ands; assumption)
            go_wp2_with fail
            go_roundw
            case rel => exact ⟨k + 1, by omega, by go_num, hN.1, hN.2⟩
            case measure => simp [intOf]; omega
          · rw [if_neg hat, Int.add_zero] at hap
            simp only [hap] at HCX
            have e1 : IntKind.i64.wrap V = V := IntWalk.i64_in _ (by omega)
            have q1 : ((k : Int) + 1 == 1 + (m : Int)) = false := by simpa using hat
            clear hap hV hat
            go_upto_region 15 with fail
            go_region_held3 (fun W => W.cell? ⟨bx, 0, none⟩ = some (.string nm) ∧ W.cell? ⟨bx, 1, none⟩ = some (.slice (some ⟨gx, 0, none⟩) (n + 1) cx) ∧ W.cell? ⟨w2.heap.size, 0, none⟩ = some (.string nm) ∧ W.cell? ⟨w2.heap.size, 1, none⟩ = some (.slice (some ⟨g, off, none⟩) n c) ∧ Below wr.heap.size wr W) (first | (go_split_ands; first | exact HK.out _ (by assumption) | exact HK.out _ (below_drew (by assumption))))
              (first
                | (go_split_ands; go_at_call_of 8 gx; refine (HCX.out _ (by assumption)).mono ?_; rintro e w9 ⟨rfl, hb⟩; have hb9 := bnext (by assumption : Below wr.heap.size wr _) hb; clear hb)
                | (go_split_ands; go_at_call_of 8 g; refine (HCV.out _ (by assumption)).mono ?_; rintro e w9 ⟨rfl, hb⟩; have hb9 := bnext (by assumption : Below wr.heap.size wr _) hb; clear hb))
            have hN := HNX.out _ (by go_split_ands; assumption)
            go_wp2_with fail
            go_roundw
            case rel => exact ⟨k + 1, by omega, by go_num, hN.1, hN.2⟩
            case measure => simp [intOf]; omega
        · obtain rfl : k = 8 := by omega
          have hB := HEND.out _ hX
          clear hP hX
          go_wp2_with fail
          go_ret
          exact ⟨rfl, hB⟩

set_option maxRecDepth 100000 in
theorem lifted (os : Os) (started : os.Started) (H : Type) (enc : TypeId × Value → H) :
    ReturnsInHanded {} Try.checked os 6 .any (Rows.fnVolCountSpec.pre6 enc Try.prog Try.f6 Rows.fnVolCountRow.domain false) (Rows.fnVolCountSpec.post enc Try.prog Try.f6 false true false false) := by
  refine returnsInHanded_of_change (C := Try.checked) own started (by kernel_rfl) Try.func6
    (ChangeSpec.witness6 (enc := enc) (C := Try.checked) false ⟨#[], #[.slice none 0 0, .slice none 0 0], []⟩ 8 (by kernel_rfl) (by kernel_rfl) (by kernel_rfl) (by kernel_rfl)) ?_
  intro W base args ds gs before hval0 hW hcnd _
  have hval : ∀ (j : Nat) t v, Try.f6.params[j]? = some t → args[j]? = some v → Value.okWide Try.prog W .any base t v := hval0
  have hW' := hW
  obtain ⟨p, q, hA0, hV, rfl, hfz, hnd⟩ := hW
  have hA : DataW.TrodAll enc Try.prog W 0 (fun _ => true) true Try.f6.params.toList args.toList ds p := hA0
  rw [Try.params6] at hA hval
  obtain ⟨v0, vs0, d0, ds0, p0, q0, hargs, rfl, rfl, h0, r0⟩ := trodAll_cons hA
  obtain ⟨v1, vs1, d1, ds1, p1, q1, rfl, rfl, rfl, h1, r1⟩ := trodAll_cons r0
  obtain ⟨rfl, rfl, rfl⟩ := trodAll_nil r1
  obtain rfl : args = #[v0, v1] := by cases args; simp_all
  obtain ⟨rfl, rfl⟩ := trodVars_none hV
  obtain ⟨a0, len0, cap0, rfl⟩ := okWide_slice Try.underlying22 (hval 0 22 v0 rfl rfl)
  have k0 := h0
  have lt0 : ∀ x ∈ p0, x.block < W.heap.size := by obtain ⟨m, hm⟩ := k0; exact DataW.trod_lt m _ _ _ hm
  obtain ⟨z0, w0⟩ : ∃ zs, IsRow .u8 W a0 len0 cap0 zs := by
    obtain ⟨fuel, hf⟩ := h0
    rcases open_ints Try.underlying22 Try.underlying5 (by kernel_rfl) hf with ⟨hcs, _⟩ | ⟨x, l, c, zs, hcs, _, hl, hm, hz, _, hcell, hwz⟩
    · simp [Value.cells] at hcs
      obtain ⟨rfl, rfl, rfl⟩ := hcs
      exact ⟨[], .inl ⟨rfl, rfl, rfl, rfl⟩⟩
    · simp [Value.cells] at hcs
      obtain ⟨rfl, rfl, rfl⟩ := hcs
      exact ⟨zs, .inr ⟨_, rfl, hl, hm, by simpa using hz, hcell, hwz⟩⟩
  obtain ⟨a1, len1, cap1, rfl⟩ := okWide_slice Try.underlying22 (hval 1 22 v1 rfl rfl)
  have k1 := h1
  have lt1 : ∀ x ∈ p1, x.block < W.heap.size := by obtain ⟨m, hm⟩ := k1; exact DataW.trod_lt m _ _ _ hm
  obtain ⟨z1, w1⟩ : ∃ zs, IsRow .u8 W a1 len1 cap1 zs := by
    obtain ⟨fuel, hf⟩ := h1
    rcases open_ints Try.underlying22 Try.underlying5 (by kernel_rfl) hf with ⟨hcs, _⟩ | ⟨x, l, c, zs, hcs, _, hl, hm, hz, _, hcell, hwz⟩
    · simp [Value.cells] at hcs
      obtain ⟨rfl, rfl, rfl⟩ := hcs
      exact ⟨[], .inl ⟨rfl, rfl, rfl, rfl⟩⟩
    · simp [Value.cells] at hcs
      obtain ⟨rfl, rfl, rfl⟩ := hcs
      exact ⟨zs, .inr ⟨_, rfl, hl, hm, by simpa using hz, hcell, hwz⟩⟩
  clear hA0 hval0
  refine (walk W a0 len0 cap0 z0 w0 a1 len1 cap1 z1 w1).mono fun e W' ⟨he, bel⟩ => ?_
  subst he
  exact ⟨_, rfl, _, _, _, [], _, [], hW', trodAll_mk1 (shut_bool Try.underlying4 _), (trodAll_cons_mk (Below.trod laidOut (by kernel_rfl) (of_decide_eq_true (by kernel_rfl)) k0 bel lt0) (trodAll_cons_mk (Below.trod laidOut (by kernel_rfl) (of_decide_eq_true (by kernel_rfl)) k1 bel lt1) trodAll_mk0)), rfl, bel.frame _, fun h => by cases h⟩

theorem closed : joinedFacts Try.prog 6 Try.f6 Rows.fnVolCountSpec Rows.fnVolCountRow = true := by
  unfold joinedFacts
  rewrite [head_may, head_lifts, head_make]
  kernel_rfl
theorem over : Rows.fnVolCountRow.holds Try.pinned (OpenSpec.ofChange Rows.fnVolCountSpec) :=
  OpenClaim.holds_of_wide 6 Try.f6 rfl rfl rfl rfl rfl rfl rfl ⟨rfl, rfl, rfl, rfl, rfl⟩ rfl rfl rfl rfl rfl (by kernel_rfl) Try.func6 closed
    (of_decide_eq_true (by kernel_rfl)) (by unfold Func.isWrapper; first | (rw [if_pos (by decide +kernel)]; kernel_rfl) | (rw [if_neg (by decide +kernel)]; exact ⟨rfl, rfl⟩))
    (fun os started H enc _ => lifted os started H enc)

theorem proved : Rows.FnVolCountSaid := over
#print axioms proved
end Go.Proofs.Ytgogokahpmljbaa.fnVolCount
