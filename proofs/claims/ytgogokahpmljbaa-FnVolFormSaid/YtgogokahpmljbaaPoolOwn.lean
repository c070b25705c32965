/- Disks that a call has made: the model's l3Copy. -/
import Derived.Test.YtgogokahpmljbaaVolArg
import Derived.Deep.RegionHeld3
import Derived.Deep.AppendLies
import Derived.Deep.RegionLaw
import Derived.OwnWalk
namespace Go.Proofs.Ytgogokahpmljbaa
open Go.RowKit
set_option linter.unusedVariables false
set_option maxRecDepth 100000

/-- A slice of blocks, not empty, in a block from B on, to be written. -/
def OwnBlk (B : Nat) (w : World) (v : Value) (bs : List Int) : Prop :=
  ∃ g cap, v = .slice (some ⟨g, 0, none⟩) bs.length cap ∧ B ≤ g ∧ g < w.heap.size ∧ bs.length ≤ cap ∧ 0 < bs.length ∧ IntsW w g bs

theorem cellI_one (bs : List Int) : ∀ u ∈ cellI bs, u.oneCell' = true := by
  intro u hu
  obtain ⟨b, _, rfl⟩ := List.mem_map.1 hu
  rfl

theorem cellI_len (bs : List Int) : (cellI bs).length = bs.length := by simp [cellI]

theorem intsAt_cells {w : World} {g off : Nat} {bs : List Int} (h : IntsAt w g off bs) : ∀ j u, (cellI bs)[j]? = some u → w.cell? ((⟨g, off, none⟩ : Addr).add j) = some u := by
  intro j u hj
  have hl : j < bs.length := by have := (List.getElem?_eq_some_iff.1 hj).1; rwa [cellI_len] at this
  rw [cellI_at bs j hl] at hj
  rw [add_lit, h j hl, hj]

theorem ownBlk_of {w : World} {base : Nat} {e : TypeId} {g n cap : Nat} {bs : List Int} (h : w.ownsRow base e 1 (.slice (some ⟨g, 0, none⟩) n cap) n (cellI bs)) (h0 : 0 < n) (hl : bs.length = n) : OwnBlk base w (.slice (some ⟨g, 0, none⟩) n cap) bs := by
  obtain ⟨g', cap', hv, hb, hlt, hc, hs⟩ := ints_of_own h h0 hl
  exact ⟨g', cap', by rw [hl]; exact hv, hb, hlt, by rw [hl]; exact hc, by rw [hl]; exact h0, hs⟩

theorem ownBlk_mono {B C : Nat} {w : World} {v : Value} {bs : List Int} (h : OwnBlk B w v bs) (hC : C ≤ B) : OwnBlk C w v bs := by
  obtain ⟨g, cap, hv, h1, h2⟩ := h
  exact ⟨g, cap, hv, Nat.le_trans hC h1, h2⟩

theorem ownBlk_setCell {B : Nat} {w : World} {v : Value} {bs : List Int} (h : OwnBlk B w v bs) (p : Addr) (hp : p.block < B) (u : Value) : OwnBlk B (w.setCell p u) v bs := by
  obtain ⟨g, cap, hv, h1, h2, h3, h4, h5⟩ := h
  exact ⟨g, cap, hv, h1, by simpa [World.setCell] using h2, h3, h4, intsW_kept h5 (grownBy_setCell w p u) h2 (fun e => by injection e; omega)⟩

theorem ownBlk_below {B C : Nat} {w w' : World} {v : Value} {bs : List Int} (h : OwnBlk B w v bs) (hb : Below C w w') (hC : w.heap.size ≤ C) : OwnBlk B w' v bs := by
  obtain ⟨g, cap, hv, h1, h2, h3, h4, h5⟩ := h
  exact ⟨g, cap, hv, h1, Nat.lt_of_lt_of_le h2 hb.size, h3, h4, intsW_below h5 hb (by omega)⟩

set_option maxHeartbeats 1600000 in
theorem l3Copy_any (nm : ByteArray) (g off n c : Nat) (bs : List Int) (w : World) (hx : IntsAt w g off bs) (hn : bs.length = n) (h0 : 0 < n) (hn1 : n ≤ 2000000) :
    Calls Try.prog 47 #[.agg #[.string nm, .slice (some ⟨g, off, none⟩) n c]] w fun e w' => ∃ v, e = .returned (.agg #[.string nm, v]) ∧ OwnBlk w.heap.size w' v bs ∧ Below w.heap.size w w' := by
  have hgl := ints_lt hx (by omega)
  obtain ⟨i0, hi, hz0, hz1, hz2⟩ := info_parts Try.infoI
  have hb3 : Below w.heap.size w (((w.alloc (.cells #[.string nm, .slice (some ⟨g, off, none⟩) n c] 25)).alloc (.cells #[.string ⟨#[]⟩, .slice none 0 0] 25)).alloc (.cells #[] 3)) := (((Below.refl _ _).alloc (Nat.le_refl _) _).alloc (by simp) _).alloc (by simp; omega) _
  have hown := World.ownsRow_made (e := 3) ((w.alloc (.cells #[.string nm, .slice (some ⟨g, off, none⟩) n c] 25)).alloc (.cells #[.string ⟨#[]⟩, .slice none 0 0] 25)) #[] 0 (Nat.le_refl _) (by unfold maxLen; omega) rfl (size := 1)
  simp only [World.size_alloc] at hown
  have n0 := new_cells w #[.string nm, .slice (some ⟨g, off, none⟩) n c] 25
  have n1 := new_cells (w.alloc (.cells #[.string nm, .slice (some ⟨g, off, none⟩) n c] 25)) #[.string ⟨#[]⟩, .slice none 0 0] 25
  have o0 := fun i => (old_cells ((w.alloc (.cells #[.string nm, .slice (some ⟨g, off, none⟩) n c] 25)).alloc (.cells #[.string ⟨#[]⟩, .slice none 0 0] 25)) (.cells #[] 3) w.heap.size i (by simp; omega)).1.trans (old_cells (w.alloc (.cells #[.string nm, .slice (some ⟨g, off, none⟩) n c] 25)) (.cells #[.string ⟨#[]⟩, .slice none 0 0] 25) w.heap.size i (by simp)).1
  have o1 := fun i => old_cells ((w.alloc (.cells #[.string nm, .slice (some ⟨g, off, none⟩) n c] 25)).alloc (.cells #[.string ⟨#[]⟩, .slice none 0 0] 25)) (.cells #[] 3) (w.heap.size + 1) i (by simp)
  simp only [World.size_alloc] at n1
  have far : ∀ w1, (((w.alloc (.cells #[.string nm, .slice (some ⟨g, off, none⟩) n c] 25)).alloc (.cells #[.string ⟨#[]⟩, .slice none 0 0] 25)).alloc (.cells #[] 3)).drew.grownBy w1 (some (w.heap.size + 1 + 1)) → ∀ b i, b < w.heap.size + 1 + 1 → w1.cell? ⟨b, i, none⟩ = (((w.alloc (.cells #[.string nm, .slice (some ⟨g, off, none⟩) n c] 25)).alloc (.cells #[.string ⟨#[]⟩, .slice none 0 0] 25)).alloc (.cells #[] 3)).cell? ⟨b, i, none⟩ ∧ w1.frozen? ⟨b, i, none⟩ = (((w.alloc (.cells #[.string nm, .slice (some ⟨g, off, none⟩) n c] 25)).alloc (.cells #[.string ⟨#[]⟩, .slice none 0 0] 25)).alloc (.cells #[] 3)).frozen? ⟨b, i, none⟩ := fun w1 hg b i hb =>
    ⟨World.cell?_of_block (w := (((w.alloc (.cells #[.string nm, .slice (some ⟨g, off, none⟩) n c] 25)).alloc (.cells #[.string ⟨#[]⟩, .slice none 0 0] 25)).alloc (.cells #[] 3))) (a := ⟨b, i, none⟩) (hg.block b (by show b < (((w.alloc (.cells #[.string nm, .slice (some ⟨g, off, none⟩) n c] 25)).alloc (.cells #[.string ⟨#[]⟩, .slice none 0 0] 25)).alloc (.cells #[] 3)).heap.size; simp; omega) (fun e => by injection e with e; omega)),
     World.frozen?_of_block (w := (((w.alloc (.cells #[.string nm, .slice (some ⟨g, off, none⟩) n c] 25)).alloc (.cells #[.string ⟨#[]⟩, .slice none 0 0] 25)).alloc (.cells #[] 3))) (a := ⟨b, i, none⟩) (hg.block b (by show b < (((w.alloc (.cells #[.string nm, .slice (some ⟨g, off, none⟩) n c] 25)).alloc (.cells #[.string ⟨#[]⟩, .slice none 0 0] 25)).alloc (.cells #[] 3)).heap.size; simp; omega) (fun e => by injection e with e; omega))⟩
  have hfacts : ∀ w1, (((w.alloc (.cells #[.string nm, .slice (some ⟨g, off, none⟩) n c] 25)).alloc (.cells #[.string ⟨#[]⟩, .slice none 0 0] 25)).alloc (.cells #[] 3)).drew.grownBy w1 (some (w.heap.size + 1 + 1)) → w1.cell? ⟨w.heap.size, 0, none⟩ = some (.string nm) ∧ w1.cell? ⟨w.heap.size, 1, none⟩ = some (.slice (some ⟨g, off, none⟩) n c) ∧
      w1.cell? ⟨w.heap.size + 1, 0, none⟩ = some (.string ⟨#[]⟩) ∧ w1.cell? ⟨w.heap.size + 1, 1, none⟩ = some (.slice none 0 0) ∧ w1.frozen? ⟨w.heap.size + 1, 0, none⟩ = false ∧ w1.frozen? ⟨w.heap.size + 1, 1, none⟩ = false := fun w1 hg =>
    ⟨(far w1 hg _ 0 (by omega)).1.trans ((o0 0).trans (n0.1 0)), (far w1 hg _ 1 (by omega)).1.trans ((o0 1).trans (n0.1 1)), (far w1 hg _ 0 (by omega)).1.trans ((o1 0).1.trans (n1.1 0)), (far w1 hg _ 1 (by omega)).1.trans ((o1 1).1.trans (n1.1 1)),
     (far w1 hg _ 0 (by omega)).2.trans ((o1 0).2.trans (n1.2 0)), (far w1 hg _ 1 (by omega)).2.trans ((o1 1).2.trans (n1.2 1))⟩
  have HFA := Lib.hid hfacts
  have HB3 := Lib.hid hb3
  clear n0 n1 o0 o1 far hfacts hb3
  have HOWN := Lib.hid hown
  have HNEWS := Lib.hid (intsAt_cells (intsAt_below hx HB3.out hgl))
  have Hn := Lib.hid hn
  clear hown hx hn
  go_enter Try.func47, Try.ntmps47
  go_wp2_with fail
  go_region_law (refine step_append_lies _ (by rfl) _ _ _ (by rfl) (w.heap.size + 1 + 1) 3 i0 _ 1 8 Try.underlying23 hi hz0 hz1 hz2 rfl (by omega) (.slice (some ⟨w.heap.size + 1 + 1, 0, none⟩) 0 0) 0 [] (by rfl) HOWN.out.drew ⟨g, off, none⟩ n c (cellI bs) (by rfl) (by rw [cellI_len, Hn.out]; omega) HNEWS.out (cellI_one bs) h0 (by unfold maxLen; omega) (by omega) (by simp) (w.heap.size + 1 + 1 + 1) (by simp) ?_; intro gg cap w1 hown1 hgrow hat hlt; obtain ⟨q0, q1, q2, q3, q4, q5⟩ := HFA.out w1 hgrow)
  all_goals (
    go_wp2_with fail
    refine bodyPost_ret (v := .agg #[.string nm, .slice (some ⟨gg, 0, none⟩) n cap]) (by simp [results, Try.f47, go_sem, q2, q3]) rfl ⟨_, rfl, ?_, ?_⟩
    · simp only [Nat.zero_add, List.nil_append] at hown1
      exact ownBlk_mono (ownBlk_setCell (ownBlk_setCell (ownBlk_of hown1 h0 Hn.out) _ (by simp) _) _ (by simp) _) (by omega)
    · have hB := HB3.out.drew.grown hgrow HB3.out.size (fun k e => by have e2 : w.heap.size + 1 + 1 = k := (by simpa [Value.ownBlock] using e); omega)
      exact (hB.setCell (by simp) _).setCell (by simp) _)

end Go.Proofs.Ytgogokahpmljbaa
