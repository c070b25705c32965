/- Disks by value: the laws' helpers, and a disk that comes in. -/
import Derived.Test.YtaoaclmcmeaedaaVol
import Derived.Test.YtaoaclmcmeaedaaSlotLaws
namespace Go.Proofs.Ytaoaclmcmeaedaa
open Go.RowKit Go.ChangeShapes Go.WideShapes
set_option linter.unusedVariables false
set_option maxRecDepth 100000

theorem new_cells (W : World) (cs : Array Value) (t : TypeId) : (∀ i, (W.alloc (.cells cs t)).cell? ⟨W.heap.size, i, none⟩ = cs[i]?) ∧ ∀ i, (W.alloc (.cells cs t)).frozen? ⟨W.heap.size, i, none⟩ = false := by
  have h := heap_alloc_new W (.cells cs t)
  exact ⟨fun i => cell_of_row _ _ _ _ _ _ h, fun i => by unfold World.frozen?; rw [h]; simp⟩

theorem old_cells (W : World) (o : Obj) (b i : Nat) (h : b < W.heap.size) : (W.alloc o).cell? ⟨b, i, none⟩ = W.cell? ⟨b, i, none⟩ ∧ (W.alloc o).frozen? ⟨b, i, none⟩ = W.frozen? ⟨b, i, none⟩ :=
  ⟨World.cell?_of_block (w := W) (a := ⟨b, i, none⟩) (heap_alloc_old W o h), World.frozen?_of_block (w := W) (a := ⟨b, i, none⟩) (heap_alloc_old W o h)⟩

theorem newInt_setCell {B : Nat} {w : World} {v : Value} {bs : List Int} (h : NewInt B w v bs) (p : Addr) (hp : p.block < B) (u : Value) : NewInt B (w.setCell p u) v bs := by
  rcases h with h | ⟨g, cap, hv, h1, h2, h3, h4⟩
  · exact .inl h
  · exact .inr ⟨g, cap, hv, h1, by simpa [World.setCell] using h2, h3, intsW_kept h4 (grownBy_setCell w p u) h2 (fun e => by injection e; omega)⟩

/-- A disk by value. -/
def Vov (w : World) (v : Value) (x : Vo) : Prop := ∃ a n c, v = .agg #[.string x.name, .slice a n c] ∧ x.blocks.length = n ∧ n ≤ 2000000 ∧ Ints w a x.blocks

theorem vov_below {w w' : World} {B : Nat} {v : Value} {x : Vo} (h : Vov w v x) (hb : Below B w w') (hB : w.heap.size ≤ B) : Vov w' v x := by
  obtain ⟨a, n, c, hv, hn, hn1, hs⟩ := h
  exact ⟨a, n, c, hv, hn, hn1, ints_below hs hb hB⟩

theorem vov_of {w : World} {v : Value} {x : Vo} (h : Intv w v x.blocks) : Vov w (.agg #[.string x.name, v]) x := by
  obtain ⟨a, n, c, rfl, hn, hn1, hs⟩ := h
  exact ⟨a, n, c, rfl, hn, hn1, hs⟩

def sameVo (x y : Vo) : Bool := x.name.toList == y.name.toList && sameIs x.blocks y.blocks

theorem sameIs_refl (bs : List Int) : sameIs bs bs = true := by simp [sameIs, sameI]

theorem sameVo_refl (x : Vo) : sameVo x x = true := by simp [sameVo, sameIs_refl]

set_option maxHeartbeats 800000 in
theorem eqVol_any (v1 v2 : Value) (x y : Vo) (w : World) (hx : Vov w v1 x) (hy : Vov w v2 y) :
    Calls Try.prog 32 #[v1, v2] w fun e w' => e = .returned (.bool (sameVo x y)) ∧ Below w.heap.size w w' := by
  obtain ⟨a1, n1, c1, rfl, hn1, hm1, hs1⟩ := hx
  obtain ⟨a2, n2, c2, rfl, hn2, hm2, hs2⟩ := hy
  obtain ⟨nm1, bs⟩ := x
  obtain ⟨nm2, cs⟩ := y
  simp only at hn1 hs1 hn2 hs2 ⊢
  have HE := Lib.hid (fun W (hb : Below w.heap.size w W) => eqIntS_any (.slice a1 n1 c1) (.slice a2 n2 c2) bs cs W ⟨_, _, _, rfl, hn1, hm1, ints_below hs1 hb (Nat.le_refl _)⟩ ⟨_, _, _, rfl, hn2, hm2, ints_below hs2 hb (Nat.le_refl _)⟩)
  have hb2 : Below w.heap.size w ((w.alloc (.cells #[.string nm1, .slice a1 n1 c1] 71)).alloc (.cells #[.string nm2, .slice a2 n2 c2] 71)) :=
    ((Below.refl _ _).alloc (Nat.le_refl _) _).alloc (by simp) _
  have HE2 := Lib.hid (HE.out _ hb2)
  have HB := Lib.hid hb2
  have Hv : Hid (sameVo ⟨nm1, bs⟩ ⟨nm2, cs⟩ = (nm1.toList == nm2.toList && sameIs bs cs)) := Lib.hid rfl
  clear hs1 hs2 hn1 hn2 hb2
  cases h1 : (nm1.toList == nm2.toList)
  · rw [h1] at Hv
    have h2 : (!(nm1.toList == nm2.toList)) = true := by rw [h1]; rfl
    go_enter Try.func32, Try.ntmps32
    go_wp2_with fail
    go_ret
    exact ⟨by rw [Hv.out]; rfl, HB.out⟩
  · rw [h1] at Hv
    obtain ⟨q, hq⟩ : ∃ q, sameIs bs cs = q := ⟨_, rfl⟩
    rw [hq] at HE2 Hv
    clear hq
    cases q
    · go_enter Try.func32, Try.ntmps32
      go_wp2_with fail
      refine HE2.out.mono ?_
      rintro e w3 ⟨rfl, hD⟩
      have hB := HB.out.trans (hD.below _)
      clear hD
      go_wp2_with fail
      go_ret
      exact ⟨by rw [Hv.out]; rfl, hB⟩
    · go_enter Try.func32, Try.ntmps32
      go_wp2_with fail
      refine HE2.out.mono ?_
      rintro e w3 ⟨rfl, hD⟩
      have hB := HB.out.trans (hD.below _)
      clear hD
      go_wp2_with fail
      go_ret
      exact ⟨by rw [Hv.out]; rfl, hB⟩

theorem open_blocks {H : Type} {enc : TypeId × Value → H} {w : World} {base : Nat} {spare : Nat → Bool} {held : Bool} {fuel : Nat} {cs : List Value} {x : DataW H × List MemPlace}
    (h : DataW.trod enc Try.prog w base spare held fuel 69 cs = some x) :
    ∃ a n c bs, cs = [.slice a n c] ∧ Ints w a bs ∧ bs.length = n ∧ n ≤ 9223372036854775807 := by
  rcases open_ints Try.underlying69 Try.underlying3 (by kernel_rfl) h with ⟨rfl, _⟩ | ⟨y, l, c, zs, rfl, _, hl, hm, hz, _, hcell, _⟩
  · exact ⟨none, 0, 0, [], rfl, .inl rfl, rfl, by omega⟩
  · have hlz : l ≤ zs.length := by rw [hz]; split <;> omega
    unfold maxLen at hm
    refine ⟨some y, l, c, zs.take l, rfl, ?_, by simp; omega, by omega⟩
    rcases Nat.eq_zero_or_pos l with h0 | h0
    · exact .inl (by rw [h0]; rfl)
    · have hsp := World.cell?_spot (hcell 0 (by omega))
      have e0 : y.add 0 = y := by simp [Addr.add]
      rw [e0] at hsp
      obtain ⟨b, off, sp⟩ := y
      simp only at hsp
      subst hsp
      refine .inr ⟨b, off, rfl, fun i hi => ?_⟩
      have hi2 : i < l := by simp at hi; omega
      have h1 := hcell i (by omega)
      rw [add_lit] at h1
      rw [h1]
      simp [bth, List.getD_eq_getElem?_getD, List.getElem?_take_of_lt hi2]

/-- A disk that came in, in the law's box, and whatever has come since. -/
structure BoxVol (w : World) (nm : ByteArray) (a : Option Addr) (n c : Nat) (bs : List Int) (W : World) : Prop where
  c0 : W.cell? ⟨w.heap.size, 0, none⟩ = some (.string nm)
  c1 : W.cell? ⟨w.heap.size, 1, none⟩ = some (.slice a n c)
  ints : Ints W a bs
  lt : w.heap.size < W.heap.size
  bel : Below w.heap.size w W

theorem boxed_vol (w : World) (nm : ByteArray) (a : Option Addr) (n c : Nat) (bs : List Int) (t : TypeId) (h : Ints w a bs) : BoxVol w nm a n c bs (w.alloc (.cells #[.string nm, .slice a n c] t)) := by
  have h2 := new_cells w #[.string nm, .slice a n c] t
  have hb : Below w.heap.size w (w.alloc (.cells #[.string nm, .slice a n c] t)) := (Below.refl _ _).alloc (Nat.le_refl _) _
  exact ⟨h2.1 0, h2.1 1, ints_below h hb (Nat.le_refl _), by simp, hb⟩

theorem BoxVol.later {w : World} {nm : ByteArray} {a : Option Addr} {n c : Nat} {bs : List Int} {W W' : World} (h : BoxVol w nm a n c bs W) {B : Nat} (hb : Below B W W') (hB : W.heap.size ≤ B) : BoxVol w nm a n c bs W' :=
  ⟨(hb.cell (p := ⟨w.heap.size, 0, none⟩) (by have := h.lt; show w.heap.size < B; omega)).trans h.c0, (hb.cell (p := ⟨w.heap.size, 1, none⟩) (by have := h.lt; show w.heap.size < B; omega)).trans h.c1,
    ints_below h.ints hb hB, Nat.lt_of_lt_of_le h.lt hb.size, h.bel.trans (hb.mono (by have := h.lt; omega))⟩

theorem BoxVol.next {w : World} {nm : ByteArray} {a : Option Addr} {n c : Nat} {bs : List Int} {W W' : World} (h : BoxVol w nm a n c bs W) (hb : Below W.heap.size W W') : BoxVol w nm a n c bs W' := h.later hb (Nat.le_refl _)

theorem BoxVol.alloc {w : World} {nm : ByteArray} {a : Option Addr} {n c : Nat} {bs : List Int} {W : World} (h : BoxVol w nm a n c bs W) (o : Obj) : BoxVol w nm a n c bs (W.alloc o) := h.next ((Below.refl _ _).alloc (Nat.le_refl _) o)

theorem newInt_slice {B : Nat} {w : World} {v : Value} {bs : List Int} (hN : NewInt B w v bs) : ∃ va vn vc, v = .slice va vn vc := by
  rcases hN with ⟨_, a, c, rfl⟩ | ⟨g, cap, rfl, _⟩
  · exact ⟨_, _, _, rfl⟩
  · exact ⟨_, _, _, rfl⟩

theorem ints_of_v {w : World} {a : Option Addr} {n c : Nat} {bs : List Int} (h : Intv w (.slice a n c) bs) : bs.length = n ∧ n ≤ 2000000 ∧ Ints w a bs := by
  obtain ⟨a', n', c', hv, h1, h2, h3⟩ := h
  injection hv with e1 e2 e3
  subst e1 e2 e3
  exact ⟨h1, h2, h3⟩

theorem boxed_own (w : World) (nm : ByteArray) (a : Option Addr) (n c : Nat) (bs : List Int) (t : TypeId) (h : Intv w (.slice a n c) bs) : BoxVol w nm a n c bs (w.alloc (.cells #[.string nm, .slice a n c] t)) :=
  boxed_vol w nm a n c bs t (ints_of_v h).2.2

end Go.Proofs.Ytaoaclmcmeaedaa
