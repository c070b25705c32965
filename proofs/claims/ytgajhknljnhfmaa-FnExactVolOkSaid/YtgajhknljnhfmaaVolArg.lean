/- Disks by value: the laws' helpers, and a disk that comes in. -/
import Derived.Test.YtgajhknljnhfmaaVolLaws
import Derived.Test.YtgajhknljnhfmaaSlotArg
namespace Go.Proofs.Ytgajhknljnhfmaa
open Go.RowKit Go.ChangeShapes Go.WideShapes
set_option linter.unusedVariables false
set_option maxRecDepth 100000

theorem new_cells (W : World) (cs : Array Value) (t : TypeId) : (∀ i, (W.alloc (.cells cs t)).cell? ⟨W.heap.size, i, none⟩ = cs[i]?) ∧ ∀ i, (W.alloc (.cells cs t)).frozen? ⟨W.heap.size, i, none⟩ = false := by
  have h := heap_alloc_new W (.cells cs t)
  exact ⟨fun i => cell_of_row _ _ _ _ _ _ h, fun i => by unfold World.frozen?; rw [h]; simp⟩

theorem old_cells (W : World) (o : Obj) (b i : Nat) (h : b < W.heap.size) : (W.alloc o).cell? ⟨b, i, none⟩ = W.cell? ⟨b, i, none⟩ ∧ (W.alloc o).frozen? ⟨b, i, none⟩ = W.frozen? ⟨b, i, none⟩ :=
  ⟨World.cell?_of_block (w := W) (a := ⟨b, i, none⟩) (heap_alloc_old W o h), World.frozen?_of_block (w := W) (a := ⟨b, i, none⟩) (heap_alloc_old W o h)⟩

theorem newInt_setCell {B : Nat} {w : World} {v : Value} {bs : List Int} (h : NewInt B w v bs) (p : Addr) (hp : p.block < B) (u : Value) : NewInt B (w.setCell p u) v bs := by
  rcases h with h | ⟨g, cap, hv, h1, h2, h3, h4⟩
  · exact .inl h
  · exact .inr ⟨g, cap, hv, h1, by simpa [World.setCell] using h2, h3, intsW_kept h4 (grownBy_setCell w p u) h2 (fun e => by injection e; omega)⟩

/-- A disk by value. -/
def Vov (w : World) (v : Value) (x : Vo) : Prop := ∃ a n c, v = .agg #[.string x.name, .slice a n c] ∧ x.blocks.length = n ∧ n ≤ 2000000 ∧ Ints w a x.blocks

theorem vov_below {w w' : World} {B : Nat} {v : Value} {x : Vo} (h : Vov w v x) (hb : Below B w w') (hB : w.heap.size ≤ B) : Vov w' v x := by
  obtain ⟨a, n, c, hv, hn, hn1, hs⟩ := h
  exact ⟨a, n, c, hv, hn, hn1, ints_below hs hb hB⟩

theorem vov_of {w : World} {v : Value} {x : Vo} (h : Intv w v x.blocks) : Vov w (.agg #[.string x.name, v]) x := by
  obtain ⟨a, n, c, rfl, hn, hn1, hs⟩ := h
  exact ⟨a, n, c, rfl, hn, hn1, hs⟩

theorem volOkS_v (v : Value) (x : Vo) (w : World) (h : Vov w v x) (hs : x.name.size ≤ maxLen) :
    Calls Try.prog 43 #[v] w fun e w' => e = .returned (.bool (volB x)) ∧ Below w.heap.size w w' := by
  obtain ⟨a, n, c, rfl, hn, hn1, hx⟩ := h
  exact volOkS_any x.name a n c x.blocks w hs hx hn hn1

theorem volUsesS_v (v : Value) (x : Vo) (p : Int) (w : World) (h : Vov w v x) (hs : x.name.size ≤ maxLen) :
    Calls Try.prog 42 #[v, .int .i64 p] w fun e w' => e = .returned (.int .i64 (usesF x p)) ∧ Below w.heap.size w w' := by
  obtain ⟨a, n, c, rfl, hn, hn1, hx⟩ := h
  exact volUsesS_any x.name a n c x.blocks p w hs hx hn hn1

theorem volTextS_v (v : Value) (x : Vo) (u : Value) (xs : List Sl) (w : World) (h : Vov w v x) (hs : x.name.size ≤ maxLen) (hv : Slv w u xs) (ht : Fits xs) :
    Calls Try.prog 48 #[v, u] w fun e w' => e = .returned (.string (textF x xs)) ∧ Below w.heap.size w w' := by
  obtain ⟨a, n, c, rfl, hn, hn1, hx⟩ := h
  exact volTextS_any x.name a n c x.blocks u xs w hs hx hn hn1 hv ht

set_option maxHeartbeats 800000 in
theorem szVol_any (nm : ByteArray) (a : Option Addr) (n c : Nat) (left : Int) (w : World) (h0 : 0 ≤ left) (h1 : left ≤ 1048576) (hs : nm.size ≤ 9223372036854775807) (hn1 : n ≤ 9223372036854775807) :
    Calls Try.prog 54 #[.agg #[.string nm, .slice a n c], .int .i64 left] w fun e w' => ∃ r : Int, e = .returned (.int .i64 r) ∧ (r < 0 ∨ (0 ≤ r ∧ r ≤ left ∧ (nm.size : Int) ≤ left ∧ (n : Int) ≤ left)) ∧ Below w.heap.size w w' := by
  by_cases hl : left - nm.size < 0
  · have hl2 : left < nm.size := by omega
    go_enter Try.func54, Try.ntmps54
    go_wp2_with fail
    go_ret
    exact ⟨-1, rfl, .inl (by omega), (Below.refl _ _).alloc (Nat.le_refl _) _⟩
  · have hge : 0 ≤ left - (nm.size : Int) := by omega
    have hle : left - (nm.size : Int) ≤ left := by omega
    have hsz : (nm.size : Int) ≤ left := by omega
    by_cases hm : left - (nm.size : Int) - (n : Int) < 0
    · go_enter Try.func54, Try.ntmps54
      go_wp2
      go_ret
      exact ⟨-1, rfl, .inl (by omega), (Below.refl _ _).alloc (Nat.le_refl _) _⟩
    · go_enter Try.func54, Try.ntmps54
      go_wp2
      go_ret
      exact ⟨left - (nm.size : Int) - (n : Int), rfl, .inr (by omega), (Below.refl _ _).alloc (Nat.le_refl _) _⟩

set_option maxHeartbeats 800000 in
theorem toVol_any (nm : ByteArray) (a : Option Addr) (n c : Nat) (bs : List Int) (w : World) (hx : Ints w a bs) (hn : bs.length = n) (hn1 : n ≤ 2000000) :
    Calls Try.prog 55 #[.agg #[.string nm, .slice a n c]] w fun e w' => ∃ v, e = .returned (.agg #[.string nm, v]) ∧ NewInt w.heap.size w' v bs ∧ Below w.heap.size w w' := by
  have HT := Lib.hid (fun W (hb : Below w.heap.size w W) => toIntS_any a n c bs W (ints_below hx hb (Nat.le_refl _)) hn hn1)
  have hb3 : Below w.heap.size w (((w.alloc (.cells #[.string nm, .slice a n c] 65)).alloc (.cells #[.string ⟨#[]⟩, .slice none 0 0] 49)).alloc (.cells #[.string nm, .slice none 0 0] 49)) :=
    (((Below.refl _ _).alloc (Nat.le_refl _) _).alloc (by simp) _).alloc (by simp; omega) _
  have HT3 := Lib.hid (HT.out _ hb3)
  clear hx hn
  have n2 := new_cells ((w.alloc (.cells #[.string nm, .slice a n c] 65)).alloc (.cells #[.string ⟨#[]⟩, .slice none 0 0] 49)) #[.string nm, .slice none 0 0] 49
  have n1 := new_cells (w.alloc (.cells #[.string nm, .slice a n c] 65)) #[.string ⟨#[]⟩, .slice none 0 0] 49
  have o1 := fun i => old_cells ((w.alloc (.cells #[.string nm, .slice a n c] 65)).alloc (.cells #[.string ⟨#[]⟩, .slice none 0 0] 49)) (.cells #[.string nm, .slice none 0 0] 49) (w.heap.size + 1) i (by simp)
  simp only [World.size_alloc] at n2 n1
  have q0 : (((w.alloc (.cells #[.string nm, .slice a n c] 65)).alloc (.cells #[.string ⟨#[]⟩, .slice none 0 0] 49)).alloc (.cells #[.string nm, .slice none 0 0] 49)).cell? ⟨w.heap.size + 1 + 1, 0, none⟩ = some (.string nm) := n2.1 0
  have q1 : (((w.alloc (.cells #[.string nm, .slice a n c] 65)).alloc (.cells #[.string ⟨#[]⟩, .slice none 0 0] 49)).alloc (.cells #[.string nm, .slice none 0 0] 49)).cell? ⟨w.heap.size + 1 + 1, 1, none⟩ = some (.slice none 0 0) := n2.1 1
  have q2 : (((w.alloc (.cells #[.string nm, .slice a n c] 65)).alloc (.cells #[.string ⟨#[]⟩, .slice none 0 0] 49)).alloc (.cells #[.string nm, .slice none 0 0] 49)).frozen? ⟨w.heap.size + 1 + 1, 1, none⟩ = false := n2.2 1
  have q3 : (((w.alloc (.cells #[.string nm, .slice a n c] 65)).alloc (.cells #[.string ⟨#[]⟩, .slice none 0 0] 49)).alloc (.cells #[.string nm, .slice none 0 0] 49)).cell? ⟨w.heap.size + 1, 0, none⟩ = some (.string ⟨#[]⟩) := (o1 0).1.trans (n1.1 0)
  have q4 : (((w.alloc (.cells #[.string nm, .slice a n c] 65)).alloc (.cells #[.string ⟨#[]⟩, .slice none 0 0] 49)).alloc (.cells #[.string nm, .slice none 0 0] 49)).cell? ⟨w.heap.size + 1, 1, none⟩ = some (.slice none 0 0) := (o1 1).1.trans (n1.1 1)
  have q5 : (((w.alloc (.cells #[.string nm, .slice a n c] 65)).alloc (.cells #[.string ⟨#[]⟩, .slice none 0 0] 49)).alloc (.cells #[.string nm, .slice none 0 0] 49)).frozen? ⟨w.heap.size + 1, 0, none⟩ = false := (o1 0).2.trans (n1.2 0)
  have q6 : (((w.alloc (.cells #[.string nm, .slice a n c] 65)).alloc (.cells #[.string ⟨#[]⟩, .slice none 0 0] 49)).alloc (.cells #[.string nm, .slice none 0 0] 49)).frozen? ⟨w.heap.size + 1, 1, none⟩ = false := (o1 1).2.trans (n1.2 1)
  clear n2 n1 o1
  have HQ := Lib.hid (And.intro q0 (And.intro q1 (And.intro q2 (And.intro q3 (And.intro q4 (And.intro q5 q6))))))
  clear q0 q1 q2 q3 q4 q5 q6
  go_enter Try.func55, Try.ntmps55
  go_wp2_with fail
  refine HT3.out.mono ?_
  rintro e w3 ⟨v, rfl, hN, hb⟩
  simp only [World.size_alloc] at hb hN
  have hB := hb3.trans (hb.mono (by omega))
  have hsz : w.heap.size + 1 + 1 + 1 ≤ w3.heap.size := by have := hb.size; simp at this; omega
  obtain ⟨va, vn, vc, rfl⟩ : ∃ va vn vc, v = .slice va vn vc := by
    rcases hN with ⟨_, a, c, rfl⟩ | ⟨g, cap, rfl, _⟩
    · exact ⟨_, _, _, rfl⟩
    · exact ⟨_, _, _, rfl⟩
  obtain ⟨q0, q1, q2, q3, q4, q5, q6⟩ := HQ.out
  have c0 := (hb.cell (p := ⟨w.heap.size + 1 + 1, 0, none⟩) (by simp; try omega)).trans q0
  have c1 := (hb.cell (p := ⟨w.heap.size + 1 + 1, 1, none⟩) (by simp; try omega)).trans q1
  have f1 := (hb.frozen (p := ⟨w.heap.size + 1 + 1, 1, none⟩) (by simp; try omega)).trans q2
  have d0 := (hb.cell (p := ⟨w.heap.size + 1, 0, none⟩) (by simp; try omega)).trans q3
  have d1 := (hb.cell (p := ⟨w.heap.size + 1, 1, none⟩) (by simp; try omega)).trans q4
  have e0 := (hb.frozen (p := ⟨w.heap.size + 1, 0, none⟩) (by simp; try omega)).trans q5
  have e1 := (hb.frozen (p := ⟨w.heap.size + 1, 1, none⟩) (by simp; try omega)).trans q6
  clear q0 q1 q2 q3 q4 q5 q6
  have HN := Lib.hid hN
  have HB := Lib.hid hB
  clear hN hB hb hb3
  go_wp2_with fail
  refine bodyPost_ret (v := .agg #[.string nm, .slice va vn vc]) (by simp [results, Try.f55, go_sem, d0, d1]) rfl ⟨_, rfl, ?_, ?_⟩
  · exact newInt_mono (newInt_setCell (newInt_setCell (newInt_setCell HN.out _ (by simp) _) _ (by simp) _) _ (by simp) _) (by omega)
  · exact ((HB.out.setCell (by simp; omega) _).setCell (by simp) _).setCell (by simp) _

def sameVo (x y : Vo) : Bool := x.name.toList == y.name.toList && sameIs x.blocks y.blocks

theorem sameIs_refl (bs : List Int) : sameIs bs bs = true := by simp [sameIs, sameI]

theorem sameVo_refl (x : Vo) : sameVo x x = true := by simp [sameVo, sameIs_refl]

set_option maxHeartbeats 800000 in
theorem eqVol_any (v1 v2 : Value) (x y : Vo) (w : World) (hx : Vov w v1 x) (hy : Vov w v2 y) :
    Calls Try.prog 56 #[v1, v2] w fun e w' => e = .returned (.bool (sameVo x y)) ∧ Below w.heap.size w w' := by
  obtain ⟨a1, n1, c1, rfl, hn1, hm1, hs1⟩ := hx
  obtain ⟨a2, n2, c2, rfl, hn2, hm2, hs2⟩ := hy
  obtain ⟨nm1, bs⟩ := x
  obtain ⟨nm2, cs⟩ := y
  simp only at hn1 hs1 hn2 hs2 ⊢
  have HE := Lib.hid (fun W (hb : Below w.heap.size w W) => eqIntS_any (.slice a1 n1 c1) (.slice a2 n2 c2) bs cs W ⟨_, _, _, rfl, hn1, hm1, ints_below hs1 hb (Nat.le_refl _)⟩ ⟨_, _, _, rfl, hn2, hm2, ints_below hs2 hb (Nat.le_refl _)⟩)
  have hb2 : Below w.heap.size w ((w.alloc (.cells #[.string nm1, .slice a1 n1 c1] 49)).alloc (.cells #[.string nm2, .slice a2 n2 c2] 49)) :=
    ((Below.refl _ _).alloc (Nat.le_refl _) _).alloc (by simp) _
  have HE2 := Lib.hid (HE.out _ hb2)
  have HB := Lib.hid hb2
  have Hv : Hid (sameVo ⟨nm1, bs⟩ ⟨nm2, cs⟩ = (nm1.toList == nm2.toList && sameIs bs cs)) := Lib.hid rfl
  clear hs1 hs2 hn1 hn2 hb2
  cases h1 : (nm1.toList == nm2.toList)
  · rw [h1] at Hv
    have h2 : (!(nm1.toList == nm2.toList)) = true := by rw [h1]; rfl
    go_enter Try.func56, Try.ntmps56
    go_wp2_with fail
    go_ret
    exact ⟨by rw [Hv.out]; rfl, HB.out⟩
  · rw [h1] at Hv
    obtain ⟨q, hq⟩ : ∃ q, sameIs bs cs = q := ⟨_, rfl⟩
    rw [hq] at HE2 Hv
    clear hq
    cases q
    · go_enter Try.func56, Try.ntmps56
      go_wp2_with fail
      refine HE2.out.mono ?_
      rintro e w3 ⟨rfl, hD⟩
      have hB := HB.out.trans (hD.below _)
      clear hD
      go_wp2_with fail
      go_ret
      exact ⟨by rw [Hv.out]; rfl, hB⟩
    · go_enter Try.func56, Try.ntmps56
      go_wp2_with fail
      refine HE2.out.mono ?_
      rintro e w3 ⟨rfl, hD⟩
      have hB := HB.out.trans (hD.below _)
      clear hD
      go_wp2_with fail
      go_ret
      exact ⟨by rw [Hv.out]; rfl, hB⟩

theorem open_blocks {H : Type} {enc : TypeId × Value → H} {w : World} {base : Nat} {spare : Nat → Bool} {held : Bool} {fuel : Nat} {cs : List Value} {x : DataW H × List MemPlace}
    (h : DataW.trod enc Try.prog w base spare held fuel 47 cs = some x) :
    ∃ a n c bs, cs = [.slice a n c] ∧ Ints w a bs ∧ bs.length = n ∧ n ≤ 9223372036854775807 := by
  rcases open_ints Try.underlying47 Try.underlying3 (by kernel_rfl) h with ⟨rfl, _⟩ | ⟨y, l, c, zs, rfl, _, hl, hm, hz, _, hcell, _⟩
  · exact ⟨none, 0, 0, [], rfl, .inl rfl, rfl, by omega⟩
  · have hlz : l ≤ zs.length := by rw [hz]; split <;> omega
    unfold maxLen at hm
    refine ⟨some y, l, c, zs.take l, rfl, ?_, by simp; omega, by omega⟩
    rcases Nat.eq_zero_or_pos l with h0 | h0
    · exact .inl (by rw [h0]; rfl)
    · have hsp := World.cell?_spot (hcell 0 (by omega))
      have e0 : y.add 0 = y := by simp [Addr.add]
      rw [e0] at hsp
      obtain ⟨b, off, sp⟩ := y
      simp only at hsp
      subst hsp
      refine .inr ⟨b, off, rfl, fun i hi => ?_⟩
      have hi2 : i < l := by simp at hi; omega
      have h1 := hcell i (by omega)
      rw [add_lit] at h1
      rw [h1]
      simp [bth, List.getD_eq_getElem?_getD, List.getElem?_take_of_lt hi2]

theorem open_vol {H : Type} {enc : TypeId × Value → H} {w : World} {base : Nat} {spare : Nat → Bool} {held : Bool} {fuel : Nat} {cs : Array Value} {x : DataW H × List MemPlace} (hs : cs.size = 2)
    (h : DataW.trod enc Try.prog w base spare held fuel 65 cs.toList = some x) :
    ∃ nm a n c bs, cs = #[.string nm, .slice a n c] ∧ nm.size ≤ maxLen ∧ Ints w a bs ∧ bs.length = n ∧ n ≤ 9223372036854775807 := by
  obtain ⟨y0, y1, m, _, _, h0, h1⟩ := trod_struct2 Try.underlying65 h
  match cs, hs with
  | ⟨[c0, c1]⟩, _ =>
    have ce : Try.prog.cellsOf 9 = 1 := by kernel_rfl
    have ci : Try.prog.cellsOf 47 = 1 := by kernel_rfl
    simp only [ce, List.drop_zero, List.take_succ_cons, List.take_zero] at h0
    simp only [ci, List.drop_succ_cons, List.drop_zero, List.take_succ_cons, List.take_zero] at h1
    obtain ⟨s, hs, _, hsz⟩ := DataW.trod_string Try.underlying9 h0
    obtain ⟨a, n, c, bs, hb, hi, hn, hn1⟩ := open_blocks h1
    simp at hs hb
    subst hs hb
    exact ⟨s, a, n, c, bs, rfl, hsz, hi, hn, hn1⟩

/-- A disk that came in, in the law's box, and whatever has come since. -/
structure BoxVol (w : World) (nm : ByteArray) (a : Option Addr) (n c : Nat) (bs : List Int) (W : World) : Prop where
  c0 : W.cell? ⟨w.heap.size, 0, none⟩ = some (.string nm)
  c1 : W.cell? ⟨w.heap.size, 1, none⟩ = some (.slice a n c)
  ints : Ints W a bs
  lt : w.heap.size < W.heap.size
  bel : Below w.heap.size w W

theorem boxed_vol (w : World) (nm : ByteArray) (a : Option Addr) (n c : Nat) (bs : List Int) (t : TypeId) (h : Ints w a bs) : BoxVol w nm a n c bs (w.alloc (.cells #[.string nm, .slice a n c] t)) := by
  have h2 := new_cells w #[.string nm, .slice a n c] t
  have hb : Below w.heap.size w (w.alloc (.cells #[.string nm, .slice a n c] t)) := (Below.refl _ _).alloc (Nat.le_refl _) _
  exact ⟨h2.1 0, h2.1 1, ints_below h hb (Nat.le_refl _), by simp, hb⟩

theorem BoxVol.later {w : World} {nm : ByteArray} {a : Option Addr} {n c : Nat} {bs : List Int} {W W' : World} (h : BoxVol w nm a n c bs W) {B : Nat} (hb : Below B W W') (hB : W.heap.size ≤ B) : BoxVol w nm a n c bs W' :=
  ⟨(hb.cell (p := ⟨w.heap.size, 0, none⟩) (by have := h.lt; show w.heap.size < B; omega)).trans h.c0, (hb.cell (p := ⟨w.heap.size, 1, none⟩) (by have := h.lt; show w.heap.size < B; omega)).trans h.c1,
    ints_below h.ints hb hB, Nat.lt_of_lt_of_le h.lt hb.size, h.bel.trans (hb.mono (by have := h.lt; omega))⟩

theorem BoxVol.next {w : World} {nm : ByteArray} {a : Option Addr} {n c : Nat} {bs : List Int} {W W' : World} (h : BoxVol w nm a n c bs W) (hb : Below W.heap.size W W') : BoxVol w nm a n c bs W' := h.later hb (Nat.le_refl _)

theorem BoxVol.alloc {w : World} {nm : ByteArray} {a : Option Addr} {n c : Nat} {bs : List Int} {W : World} (h : BoxVol w nm a n c bs W) (o : Obj) : BoxVol w nm a n c bs (W.alloc o) := h.next ((Below.refl _ _).alloc (Nat.le_refl _) o)

theorem newInt_slice {B : Nat} {w : World} {v : Value} {bs : List Int} (hN : NewInt B w v bs) : ∃ va vn vc, v = .slice va vn vc := by
  rcases hN with ⟨_, a, c, rfl⟩ | ⟨g, cap, rfl, _⟩
  · exact ⟨_, _, _, rfl⟩
  · exact ⟨_, _, _, rfl⟩

theorem ints_of_v {w : World} {a : Option Addr} {n c : Nat} {bs : List Int} (h : Intv w (.slice a n c) bs) : bs.length = n ∧ n ≤ 2000000 ∧ Ints w a bs := by
  obtain ⟨a', n', c', hv, h1, h2, h3⟩ := h
  injection hv with e1 e2 e3
  subst e1 e2 e3
  exact ⟨h1, h2, h3⟩

theorem boxed_own (w : World) (nm : ByteArray) (a : Option Addr) (n c : Nat) (bs : List Int) (t : TypeId) (h : Intv w (.slice a n c) bs) : BoxVol w nm a n c bs (w.alloc (.cells #[.string nm, .slice a n c] t)) :=
  boxed_vol w nm a n c bs t (ints_of_v h).2.2

end Go.Proofs.Ytgajhknljnhfmaa
