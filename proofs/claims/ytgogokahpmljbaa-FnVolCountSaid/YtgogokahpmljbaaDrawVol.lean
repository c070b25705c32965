/- Drawn disks: the model's DrawVolOk, DrawVolUses, DrawVolText; a copy of a disk in a law's box. -/
import Derived.Test.YtgogokahpmljbaaPoolOwn
import Derived.Test.YtgogokahpmljbaaPoolPool
import Derived.Deep.RegionWith
import Derived.Deep.CutBlock
import Derived.Deep.RegionHeld3
namespace Go.Proofs.Ytgogokahpmljbaa
open Go.RowKit
set_option linter.unusedVariables false
set_option maxRecDepth 100000

/-- A disk in the box b, its blocks in gi, both from B on and to be written. -/
structure CpB (B b gi cap : Nat) (nm : ByteArray) (bs : List Int) (W : World) : Prop where
  lb : B ≤ b
  lt : b < W.heap.size
  lg : B ≤ gi
  gt : gi < W.heap.size
  ne : gi ≠ b
  c0 : W.cell? ⟨b, 0, none⟩ = some (.string nm)
  c1 : W.cell? ⟨b, 1, none⟩ = some (.slice (some ⟨gi, 0, none⟩) bs.length cap)
  ic : bs.length ≤ cap
  own : IntsW W gi bs

theorem CpB.later {B b gi cap : Nat} {nm : ByteArray} {bs : List Int} {W W' : World} (h : CpB B b gi cap nm bs W) {C : Nat} (hb : Below C W W') (hC : W.heap.size ≤ C) : CpB B b gi cap nm bs W' :=
  ⟨h.lb, Nat.lt_of_lt_of_le h.lt hb.size, h.lg, Nat.lt_of_lt_of_le h.gt hb.size, h.ne,
    (hb.cell (p := ⟨b, 0, none⟩) (Nat.lt_of_lt_of_le h.lt hC)).trans h.c0, (hb.cell (p := ⟨b, 1, none⟩) (Nat.lt_of_lt_of_le h.lt hC)).trans h.c1, h.ic,
    intsW_below h.own hb (Nat.lt_of_lt_of_le h.gt hC)⟩

theorem CpB.next {B b gi cap : Nat} {nm : ByteArray} {bs : List Int} {W W' : World} (h : CpB B b gi cap nm bs W) (hb : Below W.heap.size W W') : CpB B b gi cap nm bs W' := h.later hb (Nat.le_refl _)

theorem CpB.setFar {B b gi cap : Nat} {nm : ByteArray} {bs : List Int} {W : World} (h : CpB B b gi cap nm bs W) (p : Addr) (v : Value) (h1 : p.block ≠ b) (h2 : p.block ≠ gi) : CpB B b gi cap nm bs (W.setCell p v) := by
  have hk : ∀ k, k ≠ p.block → (W.setCell p v).heap[k]? = W.heap[k]? := fun k hk => Below.heap_setCell W p v k hk
  exact ⟨h.lb, by simpa [World.setCell] using h.lt, h.lg, by simpa [World.setCell] using h.gt, h.ne,
    (World.cell?_of_block (w := W) (a := ⟨b, 0, none⟩) (hk b (Ne.symm h1))).trans h.c0, (World.cell?_of_block (w := W) (a := ⟨b, 1, none⟩) (hk b (Ne.symm h1))).trans h.c1, h.ic,
    intsW_kept h.own (grownBy_setCell W p v) h.gt (fun e => h2 (by injection e with e; exact e.symm))⟩

theorem CpB.blk {B b gi cap : Nat} {nm : ByteArray} {bs : List Int} {W : World} (h : CpB B b gi cap nm bs W) (i : Nat) (hi : i < bs.length) (x : Int) : CpB B b gi cap nm (bs.set i x) (W.setCell ⟨gi, i, none⟩ (.int .i64 x)) := by
  have hk : ∀ k, k ≠ gi → (W.setCell ⟨gi, i, none⟩ (.int .i64 x)).heap[k]? = W.heap[k]? := fun k hk => Below.heap_setCell W _ _ k hk
  have h1 : (bs.set i x).length = bs.length := by simp
  exact ⟨h.lb, by simpa [World.setCell] using h.lt, h.lg, by simpa [World.setCell] using h.gt, h.ne,
    (World.cell?_of_block (w := W) (a := ⟨b, 0, none⟩) (hk b (Ne.symm h.ne))).trans h.c0, by rw [h1]; exact (World.cell?_of_block (w := W) (a := ⟨b, 1, none⟩) (hk b (Ne.symm h.ne))).trans h.c1, by rw [h1]; exact h.ic,
    intsW_set h.own i hi x⟩

theorem CpB.vov {B b gi cap : Nat} {nm : ByteArray} {bs : List Int} {W : World} (h : CpB B b gi cap nm bs W) (hn : bs.length ≤ 2000000) : Vov W (.agg #[.string nm, .slice (some ⟨gi, 0, none⟩) bs.length cap]) ⟨nm, bs⟩ :=
  ⟨_, _, _, rfl, rfl, hn, .inr ⟨gi, 0, rfl, h.own.1⟩⟩

/-- The copy has been appended, and stored into the box. -/
theorem cpB_made {B b gi n cap : Nat} {nm : ByteArray} {bs : List Int} {W : World} (hl : bs.length = n) (lb : B ≤ b) (lt : b < W.heap.size) (ho : OwnBlk B W (.slice (some ⟨gi, 0, none⟩) n cap) bs) (ne : gi ≠ b)
    {u0 u1 : Value} (c0 : W.cell? ⟨b, 0, none⟩ = some u0) (c1 : W.cell? ⟨b, 1, none⟩ = some u1) :
    CpB B b gi cap nm bs ((W.setCell ⟨b, 0, none⟩ (.string nm)).setCell ⟨b, 1, none⟩ (.slice (some ⟨gi, 0, none⟩) n cap)) := by
  subst hl
  obtain ⟨g, c, hv, h1, h2, h3, h4, h5⟩ := ho
  injection hv with e1 e2 e3
  injection e1 with e1
  injection e1 with e1
  subst e1 e3
  have k1 := intsW_kept h5 (grownBy_setCell W ⟨b, 0, none⟩ (.string nm)) h2 (fun e => ne (by injection e))
  have k2 := intsW_kept k1 (grownBy_setCell (W.setCell ⟨b, 0, none⟩ (.string nm)) ⟨b, 1, none⟩ (.slice (some ⟨gi, 0, none⟩) bs.length cap)) (by simpa [World.setCell] using h2) (fun e => ne (by injection e))
  exact ⟨lb, by simpa [World.setCell] using lt, h1, by simpa [World.setCell] using h2, ne,
    (cell_other _ _ _ _ (ne_off b 1 0 (by omega))).trans (cell_same _ _ _ _ c0), cell_same _ _ _ _ ((cell_other _ _ _ _ (ne_off b 0 1 (by omega))).trans c1), h3, k2⟩

theorem cpB_alloc {B gi n cap : Nat} {nm : ByteArray} {bs : List Int} {W : World} {t : TypeId} (hl : bs.length = n) (lb : B ≤ W.heap.size) (ho : OwnBlk B W (.slice (some ⟨gi, 0, none⟩) n cap) bs) :
    CpB B W.heap.size gi cap nm bs (W.alloc (.cells #[.string nm, .slice (some ⟨gi, 0, none⟩) n cap] t)) := by
  subst hl
  obtain ⟨g, c, hv, h1, h2, h3, h4, h5⟩ := ho
  injection hv with e1 e2 e3
  injection e1 with e1
  injection e1 with e1
  subst e1 e3
  have n0 := new_cells W #[.string nm, .slice (some ⟨gi, 0, none⟩) bs.length cap] t
  exact ⟨lb, by simp, h1, by simp; omega, by omega, n0.1 0, n0.1 1, h3, intsW_below h5 ((Below.refl W.heap.size W).alloc (Nat.le_refl _) _) h2⟩

/-- The law's box b and the copy's empty row k lie there; nothing has been copied yet. -/
structure CopyAt (w : World) (b k : Nat) (W : World) : Prop where
  own : W.ownsRow w.heap.size 3 1 (.slice (some ⟨k, 0, none⟩) 0 0) 0 []
  bel : Below w.heap.size w W
  lb : w.heap.size ≤ b
  lt : b < W.heap.size
  lk : w.heap.size ≤ k
  ne : b ≠ k
  c0 : W.cell? ⟨b, 0, none⟩ = some (.string ⟨#[]⟩)
  c1 : W.cell? ⟨b, 1, none⟩ = some (.slice none 0 0)
  f0 : W.frozen? ⟨b, 0, none⟩ = false
  f1 : W.frozen? ⟨b, 1, none⟩ = false

theorem copyA (w : World) : CopyAt w w.heap.size (w.heap.size + 1) ((w.alloc (.cells #[.string ⟨#[]⟩, .slice none 0 0] 25)).alloc (.cells #[] 3)) := by
  have n := new_cells w #[.string ⟨#[]⟩, .slice none 0 0] 25
  have o := fun i => old_cells (w.alloc (.cells #[.string ⟨#[]⟩, .slice none 0 0] 25)) (.cells #[] 3) w.heap.size i (by simp)
  have h := World.ownsRow_made (base := w.heap.size) (e := 3) (size := 1) (w.alloc (.cells #[.string ⟨#[]⟩, .slice none 0 0] 25)) #[] 0 (by simp) (by unfold maxLen; omega) rfl
  simp only [World.size_alloc] at h
  exact ⟨h, ((Below.refl _ _).alloc (Nat.le_refl _) _).alloc (by simp) _, Nat.le_refl _, by simp; omega, by omega, by omega, (o 0).1.trans (n.1 0), (o 1).1.trans (n.1 1), (o 0).2.trans (n.2 0), (o 1).2.trans (n.2 1)⟩

theorem copyB (w : World) : CopyAt w (w.heap.size + 1) w.heap.size ((w.alloc (.cells #[] 3)).alloc (.cells #[.string ⟨#[]⟩, .slice none 0 0] 25)) := by
  have n := new_cells (w.alloc (.cells #[] 3)) #[.string ⟨#[]⟩, .slice none 0 0] 25
  simp only [World.size_alloc] at n
  have h := World.ownsRow_made (base := w.heap.size) (e := 3) (size := 1) w #[] 0 (Nat.le_refl _) (by unfold maxLen; omega) rfl
  exact ⟨h.alloc _, ((Below.refl _ _).alloc (Nat.le_refl _) _).alloc (by simp) _, by omega, by simp, Nat.le_refl _, by omega, n.1 0, n.1 1, n.2 0, n.2 1⟩

/-- Behind the append. -/
structure CopyGo (w : World) (b g : Nat) (w5 : World) : Prop where
  bel : Below w.heap.size w w5
  ne : g ≠ b
  lb : w.heap.size ≤ b
  lt : b < w5.heap.size
  c0 : w5.cell? ⟨b, 0, none⟩ = some (.string ⟨#[]⟩)
  c1 : w5.cell? ⟨b, 1, none⟩ = some (.slice none 0 0)
  f0 : w5.frozen? ⟨b, 0, none⟩ = false
  f1 : w5.frozen? ⟨b, 1, none⟩ = false

theorem CopyAt.go {w W w5 : World} {b k g : Nat} (h : CopyAt w b k W) (hg : W.drew.grownBy w5 (some k)) (hat : some k = some g ∨ g = W.heap.size) : CopyGo w b g w5 := by
  have h1 := h.lt
  have hk : ∀ i, w5.cell? ⟨b, i, none⟩ = W.cell? ⟨b, i, none⟩ ∧ w5.frozen? ⟨b, i, none⟩ = W.frozen? ⟨b, i, none⟩ := fun i =>
    ⟨World.cell?_of_block (w := W.drew) (a := ⟨b, i, none⟩) (hg.block b h1 (fun e => h.ne (by injection e))), World.frozen?_of_block (w := W.drew) (a := ⟨b, i, none⟩) (hg.block b h1 (fun e => h.ne (by injection e)))⟩
  refine ⟨h.bel.drew.grown hg h.bel.size (fun j e => by injection e with e; exact e ▸ h.lk), fun e => ?_, h.lb, Nat.lt_of_lt_of_le h1 hg.size, (hk 0).1.trans h.c0, (hk 1).1.trans h.c1, (hk 0).2.trans h.f0, (hk 1).2.trans h.f1⟩
  rcases hat with hat | hat
  · injection hat with hat; exact h.ne (by rw [hat, e])
  · omega

/-- The law's box b lies there, beside the row g that is appended to. -/
structure MidN (B b g : Nat) (W : World) : Prop where
  lb : B ≤ b
  lt : b < W.heap.size
  ne : b ≠ g
  c0 : W.cell? ⟨b, 0, none⟩ = some (.string ⟨#[]⟩)
  c1 : W.cell? ⟨b, 1, none⟩ = some (.slice none 0 0)
  f0 : W.frozen? ⟨b, 0, none⟩ = false
  f1 : W.frozen? ⟨b, 1, none⟩ = false

theorem midN_new {B g : Nat} (W : World) (k : Nat) (hk : W.heap.size = k) (hB : B ≤ k) (hne : k ≠ g) : MidN B k g (W.alloc (.cells #[.string ⟨#[]⟩, .slice none 0 0] 25)) := by
  subst hk
  have n := new_cells W #[.string ⟨#[]⟩, .slice none 0 0] 25
  exact ⟨hB, by simp, hne, n.1 0, n.1 1, n.2 0, n.2 1⟩

theorem MidN.alloc {B b g : Nat} {W : World} (h : MidN B b g W) (o : Obj) : MidN B b g (W.alloc o) := by
  have n := fun i => old_cells W o b i h.lt
  exact ⟨h.lb, by have := h.lt; simp; omega, h.ne, (n 0).1.trans h.c0, (n 1).1.trans h.c1, (n 0).2.trans h.f0, (n 1).2.trans h.f1⟩

theorem MidN.drew {B b g : Nat} {W : World} (h : MidN B b g W) : MidN B b g W.drew := ⟨h.lb, h.lt, h.ne, h.c0, h.c1, h.f0, h.f1⟩

theorem MidN.grown {B b g g' : Nat} {W W' : World} (h : MidN B b g W) (hg : W.grownBy W' (some g)) (hat : some g = some g' ∨ g' = W.heap.size) : MidN B b g' W' := by
  have h1 := h.lt
  have hk : ∀ i, W'.cell? ⟨b, i, none⟩ = W.cell? ⟨b, i, none⟩ ∧ W'.frozen? ⟨b, i, none⟩ = W.frozen? ⟨b, i, none⟩ := fun i =>
    ⟨World.cell?_of_block (w := W) (a := ⟨b, i, none⟩) (hg.block b h1 (fun e => h.ne (by injection e))), World.frozen?_of_block (w := W) (a := ⟨b, i, none⟩) (hg.block b h1 (fun e => h.ne (by injection e)))⟩
  refine ⟨h.lb, Nat.lt_of_lt_of_le h1 hg.size, fun e => ?_, (hk 0).1.trans h.c0, (hk 1).1.trans h.c1, (hk 0).2.trans h.f0, (hk 1).2.trans h.f1⟩
  rcases hat with hat | hat
  · injection hat with hat; exact h.ne (by rw [hat, e])
  · omega

/-- The one block k that is appended lies there, beside the row g. -/
structure MidS (k g : Nat) (z : Int) (W : World) : Prop where
  lt : k < W.heap.size
  ne : k ≠ g
  cell : W.cell? ⟨k, 0, none⟩ = some (.int .i64 z)

theorem midS_new {g : Nat} {z : Int} (W : World) (k : Nat) (hk : W.heap.size = k) (hne : k ≠ g) : MidS k g z (W.alloc (.cells #[.int .i64 z] 3)) := by
  subst hk
  exact ⟨by simp, hne, (new_cells W #[.int .i64 z] 3).1 0⟩

theorem MidS.alloc {k g : Nat} {z : Int} {W : World} (h : MidS k g z W) (o : Obj) : MidS k g z (W.alloc o) :=
  ⟨by have := h.lt; simp; omega, h.ne, (old_cells W o k 0 h.lt).1.trans h.cell⟩

theorem MidS.drew {k g : Nat} {z : Int} {W : World} (h : MidS k g z W) : MidS k g z W.drew := ⟨h.lt, h.ne, h.cell⟩

theorem MidS.grown {k g g' : Nat} {z : Int} {W W' : World} (h : MidS k g z W) (hg : W.grownBy W' (some g)) (hat : some g = some g' ∨ g' = W.heap.size) : MidS k g' z W' := by
  have h1 := h.lt
  refine ⟨Nat.lt_of_lt_of_le h1 hg.size, fun e => ?_, (World.cell?_of_block (w := W) (a := ⟨k, 0, none⟩) (hg.block k h1 (fun e => h.ne (by injection e)))).trans h.cell⟩
  rcases hat with hat | hat
  · injection hat with hat; exact h.ne (by rw [hat, e])
  · omega

theorem MidS.news {k g : Nat} {z : Int} {W : World} (h : MidS k g z W) : ∀ j u, (cellI [z])[j]? = some u → W.cell? ((⟨k, 0, none⟩ : Addr).add j) = some u := by
  intro j u hj
  match j with
  | 0 => rw [add_lit]; simpa [cellI] using h.cell.trans (by simpa [cellI] using hj)
  | j + 1 => simp [cellI] at hj

theorem own_new {B : Nat} (W : World) (k : Nat) (hk : W.heap.size = k) (hB : B ≤ k) : (W.alloc (.cells #[] 3)).ownsRow B 3 1 (.slice (some ⟨k, 0, none⟩) 0 0) 0 [] := by
  subst hk
  exact World.ownsRow_made W #[] 0 hB (by unfold maxLen; omega) rfl

open Go.RowKit
set_option linter.unusedVariables false
set_option maxRecDepth 100000

/-- A drawn disk in the box bv, with its blocks in gi; the reader. -/
structure DvSt (w2 : World) (B P bv : Nat) (nm : ByteArray) (gi off n c : Nat) (bs : List Int) (W : World) : Prop where
  rd : RdTo B P w2 W
  BL : B < w2.heap.size
  lv : w2.heap.size ≤ bv
  lt : bv < W.heap.size
  li : w2.heap.size ≤ gi
  gt : gi < W.heap.size
  ne : gi ≠ bv
  c0 : W.cell? ⟨bv, 0, none⟩ = some (.string nm)
  c1 : W.cell? ⟨bv, 1, none⟩ = some (.slice (some ⟨gi, off, none⟩) n c)
  f0 : W.frozen? ⟨bv, 0, none⟩ = false
  f1 : W.frozen? ⟨bv, 1, none⟩ = false
  ints : IntsAt W gi off bs
  fi : ∀ o, W.frozen? ⟨gi, o, none⟩ = false
  len : bs.length = n
  n1 : 1 ≤ n
  n6 : n ≤ 6
  nc : n ≤ c
  nms : nm.size ≤ 2
  sm : ∀ x ∈ bs, -1 ≤ x ∧ x ≤ 10

theorem DvSt.turn {w2 : World} {B P bv : Nat} {nm : ByteArray} {gi off n c : Nat} {bs : List Int} {W : World} (h : DvSt w2 B P bv nm gi off n c bs W) {Q : Nat} {W' : World} (hr : RdTo B Q W W') : DvSt w2 B Q bv nm gi off n c bs W' := by
  have h1 := h.BL
  have h2 := h.lv
  have h3 := h.lt
  have h4 := h.li
  have h5 := h.gt
  have hk : ∀ k, k < W.heap.size → k ≠ B → W'.heap[k]? = W.heap[k]? := fun k h1 h2 => hr.2.block k h1 (fun e => h2 (by injection e))
  have cc : ∀ t i, t < W.heap.size → t ≠ B → W'.cell? ⟨t, i, none⟩ = W.cell? ⟨t, i, none⟩ := fun t i a c => World.cell?_of_block (w := W) (a := ⟨t, i, none⟩) (hk t a c)
  have ff : ∀ t i, t < W.heap.size → t ≠ B → W'.frozen? ⟨t, i, none⟩ = W.frozen? ⟨t, i, none⟩ := fun t i a c => World.frozen?_of_block (w := W) (a := ⟨t, i, none⟩) (hk t a c)
  exact ⟨h.rd.trans hr, h.BL, h.lv, Nat.lt_of_lt_of_le h.lt hr.2.size, h.li, Nat.lt_of_lt_of_le h.gt hr.2.size, h.ne, (cc bv 0 h3 (by omega)).trans h.c0, (cc bv 1 h3 (by omega)).trans h.c1, (ff bv 0 h3 (by omega)).trans h.f0, (ff bv 1 h3 (by omega)).trans h.f1,
    fun i hi => (cc gi (off + i) h5 (by omega)).trans (h.ints i hi), fun o => (ff gi o h5 (by omega)).trans (h.fi o), h.len, h.n1, h.n6, h.nc, h.nms, h.sm⟩

theorem DvSt.mono {w2 : World} {B P bv : Nat} {nm : ByteArray} {gi off n c : Nat} {bs : List Int} {W : World} (h : DvSt w2 B P bv nm gi off n c bs W) {Q : Nat} (hPQ : P ≤ Q) : DvSt w2 B Q bv nm gi off n c bs W := { h with rd := h.rd.mono hPQ }

theorem DvSt.drew {w2 : World} {B P bv : Nat} {nm : ByteArray} {gi off n c : Nat} {bs : List Int} {W : World} (h : DvSt w2 B P bv nm gi off n c bs W) : DvSt w2 B P bv nm gi off n c bs W.drew := h.turn ⟨h.rd.1, (drawn_drew (w := W)).grown _⟩

theorem DvSt.alloc {w2 : World} {B P bv : Nat} {nm : ByteArray} {gi off n c : Nat} {bs : List Int} {W : World} (h : DvSt w2 B P bv nm gi off n c bs W) (x : Obj) : DvSt w2 B P bv nm gi off n c bs (W.alloc x) := h.turn ((RdTo.refl h.rd.1).alloc x)

/-- Another name. -/
theorem DvSt.name {w2 : World} {B P bv : Nat} {nm : ByteArray} {gi off n c : Nat} {bs : List Int} {W : World} (h : DvSt w2 B P bv nm gi off n c bs W) (nm' : ByteArray) (hs : nm'.size ≤ 2) : DvSt w2 B P bv nm' gi off n c bs (W.setCell ⟨bv, 0, none⟩ (.string nm')) := by
  have h1 := h.BL
  have h2 := h.lv
  have hne := h.ne
  have hk : ∀ k, k ≠ bv → (W.setCell ⟨bv, 0, none⟩ (.string nm')).heap[k]? = W.heap[k]? := fun k hk => Below.heap_setCell W ⟨bv, 0, none⟩ _ k hk
  exact ⟨h.rd.setFar h.BL ⟨bv, 0, none⟩ h.lv _, h.BL, h.lv, by simpa [World.setCell] using h.lt, h.li, by simpa [World.setCell] using h.gt, h.ne, cell_same _ _ _ _ h.c0, (cell_other _ _ _ _ (ne_off bv 0 1 (by omega))).trans h.c1, (World.frozen?_setCell _ _ _ _).trans h.f0, (World.frozen?_setCell _ _ _ _).trans h.f1,
    fun i hi => (World.cell?_of_block (w := W) (a := ⟨gi, off + i, none⟩) (hk gi hne)).trans (h.ints i hi), fun o => (World.frozen?_setCell _ _ _ _).trans (h.fi o), h.len, h.n1, h.n6, h.nc, hs, h.sm⟩

/-- Another block. -/
theorem DvSt.blk {w2 : World} {B P bv : Nat} {nm : ByteArray} {gi off n c : Nat} {bs : List Int} {W : World} (h : DvSt w2 B P bv nm gi off n c bs W) (i : Nat) (hi : i < n) (x : Int) (h0 : -1 ≤ x) (hx : x ≤ 10) : DvSt w2 B P bv nm gi off n c (bs.set i x) (W.setCell ⟨gi, off + i, none⟩ (.int .i64 x)) := by
  have h1 := h.BL
  have h2 := h.li
  have hne := h.ne
  have hk : ∀ k, k ≠ gi → (W.setCell ⟨gi, off + i, none⟩ (.int .i64 x)).heap[k]? = W.heap[k]? := fun k hk => Below.heap_setCell W ⟨gi, off + i, none⟩ _ k hk
  refine ⟨h.rd.setFar h.BL ⟨gi, off + i, none⟩ h.li _, h.BL, h.lv, by simpa [World.setCell] using h.lt, h.li, by simpa [World.setCell] using h.gt, h.ne, (World.cell?_of_block (w := W) (a := ⟨bv, 0, none⟩) (hk bv (Ne.symm hne))).trans h.c0, (World.cell?_of_block (w := W) (a := ⟨bv, 1, none⟩) (hk bv (Ne.symm hne))).trans h.c1, (World.frozen?_setCell _ _ _ _).trans h.f0, (World.frozen?_setCell _ _ _ _).trans h.f1,
    fun j hj => ?_, fun o => (World.frozen?_setCell _ _ _ _).trans (h.fi o), by simpa using h.len, h.n1, h.n6, h.nc, h.nms, fun y hy => ?_⟩
  · have hj2 : j < bs.length := by simpa using hj
    by_cases e : j = i
    · subst e
      have e1 : bth (bs.set j x) j = x := by rw [bth_get _ _ hj]; simp
      rw [e1]
      exact cell_same _ _ _ _ (h.ints j hj2)
    · have e1 : bth (bs.set i x) j = bth bs j := by
        rw [bth_get _ _ hj, bth_get _ _ hj2, List.getElem_set_ne (Ne.symm e)]
      rw [e1]
      exact (cell_other _ _ _ _ (ne_off gi (off + i) (off + j) (by omega))).trans (h.ints j hj2)
  · rcases List.mem_or_eq_of_mem_set hy with hy | hy
    · exact h.sm y hy
    · omega

theorem DvSt.own {w2 : World} {B P bv : Nat} {W : World} (hR : RdTo B P w2 W) (hBL : B < w2.heap.size) (hlv : w2.heap.size ≤ bv) (hlt : bv < W.heap.size) {gs cs : Nat} {v : Value} {rs : List Rw} {p : Po} (hO : OwnP (w2.heap.size + 1) W gs cs v rs p) (hD : PoolD p) {j : Nat} (hj : j < p.vols.length) {gb m cb : Nat} (hv : (rth rs j).val = .slice (some ⟨gb, 0, none⟩) m cb) (hne : gb ≠ bv)
    (c0 : W.cell? ⟨bv, 0, none⟩ = some (.string (vth p.vols j).name)) (c1 : W.cell? ⟨bv, 1, none⟩ = some (.slice (some ⟨gb, 0, none⟩) m cb)) (f0 : W.frozen? ⟨bv, 0, none⟩ = false) (f1 : W.frozen? ⟨bv, 1, none⟩ = false) :
    DvSt w2 B P bv (vth p.vols j).name gb 0 m cb (vth p.vols j).blocks W := by
  obtain ⟨_, gb2, cb2, e, h1, h2, h3, h4, h5, _⟩ := hO.vols.row j hj
  rw [hv] at e
  injection e with e1 e2 e3
  injection e1 with e1
  injection e1 with e1
  subst e1 e2 e3
  obtain ⟨q1, q2, q3, q4⟩ := hD.vols j hj
  exact ⟨hR, hBL, hlv, hlt, by omega, h2, hne, c0, c1, f0, f1, h5.1, h5.2, rfl, q2, q3, h3, q1, q4⟩

set_option maxHeartbeats 12800000 in
theorem drawVolOk_any (a : Option Addr) (len cap : Nat) (w : World) (h1 : len ≤ cap) (h2 : cap ≤ 9223372036854775807) (hr : Row8 w.heap.size w a len) :
    Calls Try.prog 11 #[.slice a len cap] w fun e w' => ∃ nm g off n c bs, e = .returned (.agg #[.string nm, .slice (some ⟨g, off, none⟩) n c]) ∧ nm.size ≤ 2 ∧ w.heap.size ≤ g ∧ g < w'.heap.size ∧ IntsAt w' g off bs ∧ bs.length = n ∧ n ≤ 6 ∧ (∀ x ∈ bs, -1 ≤ x ∧ x ≤ 10) ∧ Below w.heap.size w w' := by
  have n1 := new_cells w #[.string ⟨#[]⟩, .slice none 0 0] 25
  have hr1 : Row8 (w.alloc (.cells #[.string ⟨#[]⟩, .slice none 0 0] 25)).heap.size (w.alloc (.cells #[.string ⟨#[]⟩, .slice none 0 0] 25)) a len := by
    rcases hr with h | ⟨x, hx1, hx2, hx3⟩
    · exact .inl h
    · refine .inr ⟨x, hx1, by simp; omega, fun i hi => ?_⟩
      obtain ⟨z, hz, hz1⟩ := hx3 i hi
      exact ⟨z, cell_alloc_l _ hz, hz1⟩
  have ho := l6Open_rd a len cap (w.alloc (.cells #[.string ⟨#[]⟩, .slice none 0 0] 25)) h1 h2 hr1
  have HB1 : Hid (Below w.heap.size w (w.alloc (.cells #[.string ⟨#[]⟩, .slice none 0 0] 25))) := Lib.hid ((Below.refl _ _).alloc (Nat.le_refl _) _)
  have HN1 := Lib.hid n1
  have HO := Lib.hid ho
  clear n1 hr hr1 ho
  go_enter Try.func11, Try.ntmps11
  go_wp2_with fail
  refine HO.out.mono ?_
  rintro e w2 ⟨rfl, hR2, hb2⟩
  have HR2 := Lib.hid hR2
  have HB2 := Lib.hid (HB1.out.trans (hb2.mono (by simp)))
  have hs1 : (w.alloc (.cells #[.string ⟨#[]⟩, .slice none 0 0] 25)).heap.size = w.heap.size + 1 := by simp
  have hs2 := hb2.size
  have HRES : Hid (∀ (Q : Nat) (W : World), RdTo (w.heap.size + 1) Q w2 W → W.cell? ⟨w.heap.size, 0, none⟩ = some (.string ⟨#[]⟩) ∧ W.cell? ⟨w.heap.size, 1, none⟩ = some (.slice none 0 0) ∧ W.frozen? ⟨w.heap.size, 0, none⟩ = false ∧ W.frozen? ⟨w.heap.size, 1, none⟩ = false) := Lib.hid (fun Q W hr => by
    have hk := (hr.2.block w.heap.size (by omega) (fun e => by injection e with e; omega)).trans (hb2.block w.heap.size (by omega))
    exact ⟨(World.cell?_of_block (w := (w.alloc (.cells #[.string ⟨#[]⟩, .slice none 0 0] 25))) (a := ⟨w.heap.size, 0, none⟩) hk).trans (HN1.out.1 0), (World.cell?_of_block (w := (w.alloc (.cells #[.string ⟨#[]⟩, .slice none 0 0] 25))) (a := ⟨w.heap.size, 1, none⟩) hk).trans (HN1.out.1 1),
      (World.frozen?_of_block (w := (w.alloc (.cells #[.string ⟨#[]⟩, .slice none 0 0] 25))) (a := ⟨w.heap.size, 0, none⟩) hk).trans (HN1.out.2 0), (World.frozen?_of_block (w := (w.alloc (.cells #[.string ⟨#[]⟩, .slice none 0 0] 25))) (a := ⟨w.heap.size, 1, none⟩) hk).trans (HN1.out.2 1)⟩)
  rw [hs1] at HR2
  have hBL := HR2.out.lt
  clear hb2 HN1 HB1 HO hR2 hs1 hs2
  go_wp2_with fail
  refine (l71Pool_any _ 0 w2 HR2.out (by omega)).mono ?_
  rintro e w3 ⟨gs, cs, av, n, c, rs, p, rfl, hD, hO, hR3⟩
  have HD := Lib.hid hD
  have HOW := Lib.hid hO
  have HR3 := Lib.hid hR3
  have hvl := own_len hO.vols
  have hs3 := hR3.2.size
  clear hD hO hR3
  go_upto_if 15 with fail
  have m4 := new_cells w3 #[.slice (some ⟨gs, 0, none⟩) 8 cs, .slice av n c] 50
  have m5 := new_cells (w3.alloc (.cells #[.slice (some ⟨gs, 0, none⟩) 8 cs, .slice av n c] 50)) #[.int .i64 0, .int .i64 3, .int .i64 8] 3
  have m6 := new_cells ((w3.alloc (.cells #[.slice (some ⟨gs, 0, none⟩) 8 cs, .slice av n c] 50)).alloc (.cells #[.int .i64 0, .int .i64 3, .int .i64 8] 3)) #[.string ⟨#[66]⟩, .slice (some ⟨w3.heap.size + 1, 0, none⟩) 3 3] 25
  have o5 := fun i => old_cells ((w3.alloc (.cells #[.slice (some ⟨gs, 0, none⟩) 8 cs, .slice av n c] 50)).alloc (.cells #[.int .i64 0, .int .i64 3, .int .i64 8] 3)) (.cells #[.string ⟨#[66]⟩, .slice (some ⟨w3.heap.size + 1, 0, none⟩) 3 3] 25) (w3.heap.size + 1) i (by simp)
  have o4 := fun i => (old_cells ((w3.alloc (.cells #[.slice (some ⟨gs, 0, none⟩) 8 cs, .slice av n c] 50)).alloc (.cells #[.int .i64 0, .int .i64 3, .int .i64 8] 3)) (.cells #[.string ⟨#[66]⟩, .slice (some ⟨w3.heap.size + 1, 0, none⟩) 3 3] 25) w3.heap.size i (by simp; omega)).1.trans (old_cells (w3.alloc (.cells #[.slice (some ⟨gs, 0, none⟩) 8 cs, .slice av n c] 50)) (.cells #[.int .i64 0, .int .i64 3, .int .i64 8] 3) w3.heap.size i (by simp)).1
  simp only [World.size_alloc] at m5 m6
  have hR6 : RdTo (w.heap.size + 1) (0 + 3000) w2 (((w3.alloc (.cells #[.slice (some ⟨gs, 0, none⟩) 8 cs, .slice av n c] 50)).alloc (.cells #[.int .i64 0, .int .i64 3, .int .i64 8] 3)).alloc (.cells #[.string ⟨#[66]⟩, .slice (some ⟨w3.heap.size + 1, 0, none⟩) 3 3] 25)) := ((HR3.out.alloc _).alloc _).alloc _
  have hz6 : (((w3.alloc (.cells #[.slice (some ⟨gs, 0, none⟩) 8 cs, .slice av n c] 50)).alloc (.cells #[.int .i64 0, .int .i64 3, .int .i64 8] 3)).alloc (.cells #[.string ⟨#[66]⟩, .slice (some ⟨w3.heap.size + 1, 0, none⟩) 3 3] 25)).heap.size = w3.heap.size + 1 + 1 + 1 := by simp
  have HS6 : Hid (DvSt w2 (w.heap.size + 1) (0 + 3000) (w3.heap.size + 1 + 1) ⟨#[66]⟩ (w3.heap.size + 1) 0 3 3 [0, 3, 8] (((w3.alloc (.cells #[.slice (some ⟨gs, 0, none⟩) 8 cs, .slice av n c] 50)).alloc (.cells #[.int .i64 0, .int .i64 3, .int .i64 8] 3)).alloc (.cells #[.string ⟨#[66]⟩, .slice (some ⟨w3.heap.size + 1, 0, none⟩) 3 3] 25))) := Lib.hid ⟨hR6, hBL, by omega, by omega, by omega, by omega, by omega, m6.1 0, m6.1 1, m6.2 0, m6.2 1, fun i hi => by
    have h3 : i = 0 ∨ i = 1 ∨ i = 2 := by simp at hi; omega
    rw [Nat.zero_add]
    refine ((o5 i).1.trans (m5.1 i)).trans ?_
    rcases h3 with rfl | rfl | rfl
    all_goals rfl, fun o => (o5 o).2.trans (m5.2 o), rfl, by omega, by omega, by omega, by decide, by decide⟩
  have p1 := (o4 1).trans (m4.1 1)
  have HOW6 : Hid (OwnP (w2.heap.size + 1) (((w3.alloc (.cells #[.slice (some ⟨gs, 0, none⟩) 8 cs, .slice av n c] 50)).alloc (.cells #[.int .i64 0, .int .i64 3, .int .i64 8] 3)).alloc (.cells #[.string ⟨#[66]⟩, .slice (some ⟨w3.heap.size + 1, 0, none⟩) 3 3] 25)) gs cs (.slice av n c) rs p) := Lib.hid ((HOW.out.below ((((Below.refl w3.heap.size w3).alloc (Nat.le_refl _) _).alloc (by simp) _).alloc (by simp; omega) _) (Nat.le_refl _)))
  have HOLD : Hid (gs < w3.heap.size ∧ (∀ t, (Value.slice av n c).ownBlock = some t → t < w3.heap.size) ∧ ∀ i, i < p.vols.length → blkOf (rth rs i).val < w3.heap.size) := Lib.hid ⟨HOW.out.lt, fun t e => (arr_at HOW.out.vols.arr t e).2, fun i hi => (HOW.out.vols.blk_lt i hi).2⟩
  obtain ⟨w6, hw6⟩ : ∃ w6, (((w3.alloc (.cells #[.slice (some ⟨gs, 0, none⟩) 8 cs, .slice av n c] 50)).alloc (.cells #[.int .i64 0, .int .i64 3, .int .i64 8] 3)).alloc (.cells #[.string ⟨#[66]⟩, .slice (some ⟨w3.heap.size + 1, 0, none⟩) 3 3] 25)) = w6 := ⟨_, rfl⟩
  obtain ⟨lp, hlp⟩ : ∃ lp, w3.heap.size = lp := ⟨_, rfl⟩
  rw [hw6] at HS6 p1 HOW6 hz6 ⊢
  rw [hlp] at HS6 p1 HOLD hz6 hs3 ⊢
  clear hw6 hlp m4 m5 m6 o4 o5 hR6 HOW HR3
  have HPB : Hid (∀ (Q : Nat) (W : World), RdTo (w.heap.size + 1) Q w6 W → W.cell? ⟨lp, 1, none⟩ = some (.slice av n c)) := Lib.hid (fun Q W hr => (World.cell?_of_block (w := w6) (a := ⟨lp, 1, none⟩) (hr.2.block lp (by omega) (fun e => by injection e with e; omega))).trans p1)
  go_cut [] from 15 (fun W => ∃ nm gi off n' c' bs, DvSt w2 (w.heap.size + 1) 3010 (lp + 1 + 1) nm gi off n' c' bs W)
  case first =>
    by_cases hn0 : 0 < n
    · have hn1 : (0 : Int) < (n : Int) := by omega
      have hn5 : n ≤ 5 := by have := HD.out.vlen; omega
      obtain ⟨gv, cap', hav, _⟩ := HOW6.out.vols.rows (by omega)
      injection hav with ea en ec
      clear en ec
      subst ea
      have HROW : Hid (∀ (Q : Nat) (W : World), RdTo (w.heap.size + 1) Q w6 W → ∀ j, j < n → ∃ gb m cb, (rth rs j).val = .slice (some ⟨gb, 0, none⟩) m cb ∧ gb < lp ∧ W.cell? ⟨gv, j * 2, none⟩ = some (.string (vth p.vols j).name) ∧ W.cell? ⟨gv, j * 2 + 1, none⟩ = some (.slice (some ⟨gb, 0, none⟩) m cb)) := Lib.hid (fun Q W hr j hj => by
        have hOW := HOW6.out.turn hr.2 (by omega)
        obtain ⟨gv2, cap2, hav2, _, _, _, hrows, _⟩ := hOW.vols.rows (by omega)
        injection hav2 with ea2 _ _
        injection ea2 with ea2
        injection ea2 with ea2
        subst ea2
        have h0 := hrows j (by rw [hOW.vols.len]; omega)
        rw [Nat.zero_add] at h0
        obtain ⟨hnm, gb, cb, hrv, _⟩ := hOW.vols.row j (by omega)
        have hb := HOLD.out.2.2 j (by omega)
        rw [hnm, hrv] at h0
        rw [hrv] at hb
        exact ⟨gb, _, cb, hrv, hb, h0.1, h0.2⟩)
      have c0 := HS6.out.c0
      have c1 := HS6.out.c1
      have HPA := Lib.hid (pick_any (w.heap.size + 1) _ n w6.drew HS6.out.drew.rd.1 (by omega) (by omega))
      have HRD : Hid (RdTo (w.heap.size + 1) (0 + 3000) w6 w6.drew) := Lib.hid ⟨HS6.out.rd.1, (drawn_drew (w := w6)).grown _⟩
      clear hvl
      go_wp2_with fail
      go_region_with (go_at_call 17; refine HPA.out.mono ?_; rintro e w7 ⟨j, rfl, j0, j1, hR7⟩; obtain ⟨j, rfl⟩ := Int.eq_ofNat_of_zero_le j0; have HS7 := Lib.hid (HS6.out.drew.turn hR7); have HR7 := Lib.hid (HRD.out.trans hR7); clear hR7; obtain ⟨gb, m, cb, hrv, hgb, r0, r1⟩ := HROW.out _ w7 HR7.out j (by omega); have HRV := Lib.hid hrv; clear hrv; have p1 := HPB.out _ w7 HR7.out; have c0 := HS7.out.c0; have c1 := HS7.out.c1; have f0 := HS7.out.f0; have f1 := HS7.out.f1; have q1 : IntKind.i64.wrap (j : Int) = (j : Int) := IntWalk.i64_in _ (by omega); have q5 : (j : Int) < n := (by omega); have q6 : ¬ (j : Int) < 0 := (by omega); have q7 : ¬ (n : Int) ≤ (j : Int) := (by omega))
      all_goals (
        have HS8 : Hid (DvSt w2 (w.heap.size + 1) (0 + 3000 + 1) (lp + 1 + 1) (vth p.vols j).name gb 0 m cb (vth p.vols j).blocks ((w7.setCell ⟨lp + 1 + 1, 0, none⟩ (.string (vth p.vols j).name)).setCell ⟨lp + 1 + 1, 1, none⟩ (.slice (some ⟨gb, 0, none⟩) m cb))) := Lib.hid (by
          obtain ⟨l1, l2, l3⟩ := HOLD.out
          have n1 : lp + 1 + 1 ≠ gs := by omega
          have n2 : (Value.slice (some (⟨gv, 0, none⟩ : Addr)) n c).ownBlock ≠ some (lp + 1 + 1) := fun e => by have := l2 _ e; omega
          have n3 : ∀ i, i < p.vols.length → blkOf (rth rs i).val ≠ lp + 1 + 1 := fun i hi => by have := l3 i hi; omega
          have hO8 := ((HOW6.out.turn HR7.out.2 (by omega)).setFar ⟨lp + 1 + 1, 0, none⟩ n1 n2 n3 (.string (vth p.vols j).name)).setFar ⟨lp + 1 + 1, 1, none⟩ n1 n2 n3 (.slice (some ⟨gb, 0, none⟩) m cb)
          exact DvSt.own ((HS7.out.rd.setFar HS7.out.BL ⟨lp + 1 + 1, 0, none⟩ HS7.out.lv _).setFar HS7.out.BL ⟨lp + 1 + 1, 1, none⟩ HS7.out.lv _) HS7.out.BL HS7.out.lv (by simpa [World.setCell] using HS7.out.lt) hO8 HD.out (by have := own_len HOW6.out.vols; omega) HRV.out (by omega)
            ((cell_other _ _ _ _ (ne_off (lp + 1 + 1) 1 0 (by omega))).trans (cell_same _ _ _ _ c0)) (cell_same _ _ _ _ ((cell_other _ _ _ _ (ne_off (lp + 1 + 1) 0 1 (by omega))).trans c1)) ((World.frozen?_setCell _ _ _ _).trans ((World.frozen?_setCell _ _ _ _).trans f0)) ((World.frozen?_setCell _ _ _ _).trans ((World.frozen?_setCell _ _ _ _).trans f1)))
        go_wp2_with fail
        go_meet
        case rel => exact ⟨_, _, _, _, _, _, HS8.out.mono (by omega)⟩)
    · obtain rfl : n = 0 := by omega
      go_wp2_with fail
      go_meet
      case rel => exact ⟨_, _, _, _, _, _, HS6.out.mono (by omega)⟩
  have HEND : Hid (∀ (Q : Nat) (nm : ByteArray) (gi off n c : Nat) (bs : List Int) (W : World), DvSt w2 (w.heap.size + 1) Q (lp + 1 + 1) nm gi off n c bs W → ∀ u0 u1, ∃ nm' g off' n' c' bs', (Ending.returned (.agg #[.string nm, .slice (some ⟨gi, off, none⟩) n c])) = .returned (.agg #[.string nm', .slice (some ⟨g, off', none⟩) n' c']) ∧ nm'.size ≤ 2 ∧ w.heap.size ≤ g ∧ g < ((W.setCell ⟨w.heap.size, 0, none⟩ u0).setCell ⟨w.heap.size, 1, none⟩ u1).heap.size ∧ IntsAt ((W.setCell ⟨w.heap.size, 0, none⟩ u0).setCell ⟨w.heap.size, 1, none⟩ u1) g off' bs' ∧ bs'.length = n' ∧ n' ≤ 6 ∧ (∀ x ∈ bs', -1 ≤ x ∧ x ≤ 10) ∧ Below w.heap.size w ((W.setCell ⟨w.heap.size, 0, none⟩ u0).setCell ⟨w.heap.size, 1, none⟩ u1)) := Lib.hid (fun Q nm gi off n c bs W h u0 u1 => by
    have hgi : gi ≠ w.heap.size := by have := h.li; omega
    have hk : ((W.setCell ⟨w.heap.size, 0, none⟩ u0).setCell ⟨w.heap.size, 1, none⟩ u1).heap[gi]? = W.heap[gi]? := (Below.heap_setCell _ ⟨w.heap.size, 1, none⟩ u1 gi hgi).trans (Below.heap_setCell W ⟨w.heap.size, 0, none⟩ u0 gi hgi)
    exact ⟨nm, gi, off, n, c, bs, rfl, h.nms, by have := h.li; omega, by simpa [World.setCell] using h.gt, fun i hi => (World.cell?_of_block (w := W) (a := ⟨gi, off + i, none⟩) hk).trans (h.ints i hi), h.len, h.n6, h.sm, ((h.rd.below HB2.out (by omega) (by omega)).setCell (by simp) _).setCell (by simp) _⟩)
  obtain ⟨nm, gi, off, n', c', bs, hS⟩ := hcut
  have HS := Lib.hid hS
  clear hS HS6 HOW6 HOLD HPB HD p1
  go_wp2_with fail
  refine (pick_any _ _ 8 _ HS.out.rd.1 (by omega) (by omega)).mono ?_
  rintro e w8 ⟨y, rfl, y0, y1, hR8⟩
  have HS8 := Lib.hid (HS.out.turn hR8)
  clear hR8 HS
  by_cases hy0 : y = 0
  · subst hy0
    go_wp2_with fail
    refine (of_any (w.heap.size + 1) _ w8.heap.size 4 [⟨#[]⟩, ⟨#[69]⟩, ⟨#[98]⟩, ⟨#[65, 66]⟩] _ (HS8.out.alloc _).rd.1 (by omega) rfl (by omega) (by omega) (by simp) (by have := HS8.out.lt; have := HS8.out.lv; omega) ?_).mono ?_
    · intro i hi
      obtain rfl | rfl | rfl | rfl : i = 0 ∨ i = 1 ∨ i = 2 ∨ i = 3 := by omega
      all_goals simp
    rintro e w9 ⟨s, rfl, hs, hR9⟩
    have hs4 : s.size ≤ 2 := (show ∀ t ∈ ([⟨#[]⟩, ⟨#[69]⟩, ⟨#[98]⟩, ⟨#[65, 66]⟩] : List ByteArray), t.size ≤ 2 by decide) s hs
    have HS9 := Lib.hid ((HS8.out.alloc _).turn hR9)
    have HS10 := Lib.hid (HS9.out.name s hs4)
    have c0 := HS9.out.c0
    have c1 := HS9.out.c1
    have f0 := HS9.out.f0
    clear hs hR9
    go_upto_region 13 with fail
    obtain ⟨w10, hw10⟩ : ∃ w10, w9.setCell ⟨lp + 1 + 1, 0, none⟩ (.string s) = w10 := ⟨_, rfl⟩
    rw [hw10] at HS10 ⊢
    clear hw10 c0 c1 f0
    have c0 := HS10.out.c0
    have c1 := HS10.out.c1
    obtain ⟨d0, d1, g0, g1⟩ := HRES.out _ _ HS10.out.rd
    go_wp2_with fail
    refine bodyPost_ret (v := .agg #[.string s, .slice (some ⟨gi, off, none⟩) n' c']) (by simp [results, Try.f11, go_sem, d0, d1]) rfl ?_
    exact HEND.out _ _ _ _ _ _ _ _ HS10.out _ _
  by_cases hy1 : y = 1
  · subst hy1
    have c1 := HS8.out.c1
    have m1 := HS8.out.n1
    have m6 := HS8.out.n6
    have HPA := Lib.hid (pick_any (w.heap.size + 1) _ n' w8.drew HS8.out.drew.rd.1 (by omega) (by omega))
    go_wp2_with fail
    go_region_with (go_at_call 17; first
      | (have hx := HS9.out; refine (pick_any (w.heap.size + 1) _ 11 w9 hx.rd.1 (by omega) (by omega)).mono ?_; rintro e w10 ⟨x, rfl, x0, x1, hR10⟩; have HS10 := Lib.hid (HS9.out.turn hR10); clear hR10 hx; have q8 : IntKind.i64.wrap (x - 1) = x - 1 := IntWalk.i64_in _ (by omega); have c1 := HS10.out.c1; have hcu := HS10.out.ints i (by rw [HS10.out.len]; omega); have hfu := HS10.out.fi (off + i))
      | (refine HPA.out.mono ?_; rintro e w9 ⟨i, rfl, i0, i1, hR9⟩; obtain ⟨i, rfl⟩ := Int.eq_ofNat_of_zero_le i0; have HS9 := Lib.hid (HS8.out.drew.turn hR9); clear hR9; have c1 := HS9.out.c1; have q1 : IntKind.i64.wrap (i : Int) = (i : Int) := IntWalk.i64_in _ (by omega); have q5 : (i : Int) < n' := (by omega); have q6 : ¬ (i : Int) < 0 := (by omega); have q7 : ¬ (n' : Int) ≤ (i : Int) := (by omega)))
    all_goals (
      have HS11 := Lib.hid (HS10.out.blk i (by omega) (x - 1) (by omega) (by omega))
      go_upto_region 13 with fail
      obtain ⟨w11, hw11⟩ : ∃ w11, w10.setCell ⟨gi, off + i, none⟩ (.int .i64 (x - 1)) = w11 := ⟨_, rfl⟩
      rw [hw11] at HS11 ⊢
      clear hw11
      have c0 := HS11.out.c0
      have c1 := HS11.out.c1
      obtain ⟨d0, d1, g0, g1⟩ := HRES.out _ _ HS11.out.rd
      go_wp2_with fail
      refine bodyPost_ret (v := .agg #[.string nm, .slice (some ⟨gi, off, none⟩) n' c']) (by simp [results, Try.f11, go_sem, d0, d1]) rfl ?_
      exact HEND.out _ _ _ _ _ _ _ _ HS11.out _ _)
  by_cases hy2 : y = 2
  · subst hy2
    have c0 := HS8.out.c0
    have c1 := HS8.out.c1
    have f0 := HS8.out.f0
    have f1 := HS8.out.f1
    have m1 := HS8.out.n1
    have m6 := HS8.out.nc
    have q1 : (1 : Int) ≤ n' := by omega
    have q2 : (1 : Int) ≤ c' := by omega
    have q3 : (n' : Int) ≤ c' := by omega
    have HE2 : Hid (∀ (off2 n2 c2 : Nat) (bs2 : List Int) (u u0 u1 : Value), (∀ i, i < bs2.length → w8.cell? ⟨gi, off2 + i, none⟩ = some (.int .i64 (bth bs2 i))) → bs2.length = n2 → n2 ≤ 6 → (∀ x ∈ bs2, -1 ≤ x ∧ x ≤ 10) → ∃ nm' g off' n' c' bs', (Ending.returned (.agg #[.string nm, .slice (some ⟨gi, off2, none⟩) n2 c2])) = .returned (.agg #[.string nm', .slice (some ⟨g, off', none⟩) n' c']) ∧ nm'.size ≤ 2 ∧ w.heap.size ≤ g ∧ g < (((w8.setCell ⟨lp + 1 + 1, 1, none⟩ u).setCell ⟨w.heap.size, 0, none⟩ u0).setCell ⟨w.heap.size, 1, none⟩ u1).heap.size ∧
        IntsAt (((w8.setCell ⟨lp + 1 + 1, 1, none⟩ u).setCell ⟨w.heap.size, 0, none⟩ u0).setCell ⟨w.heap.size, 1, none⟩ u1) g off' bs' ∧ bs'.length = n' ∧ n' ≤ 6 ∧ (∀ x ∈ bs', -1 ≤ x ∧ x ≤ 10) ∧ Below w.heap.size w (((w8.setCell ⟨lp + 1 + 1, 1, none⟩ u).setCell ⟨w.heap.size, 0, none⟩ u0).setCell ⟨w.heap.size, 1, none⟩ u1)) := Lib.hid (fun off2 n2 c2 bs2 u u0 u1 h1 h2 h3 h4 => by
      have h := HS8.out
      have hgi : gi ≠ w.heap.size := by have := h.li; omega
      have hne := h.ne
      have hk : (((w8.setCell ⟨lp + 1 + 1, 1, none⟩ u).setCell ⟨w.heap.size, 0, none⟩ u0).setCell ⟨w.heap.size, 1, none⟩ u1).heap[gi]? = w8.heap[gi]? := (Below.heap_setCell _ ⟨w.heap.size, 1, none⟩ u1 gi hgi).trans ((Below.heap_setCell _ ⟨w.heap.size, 0, none⟩ u0 gi hgi).trans (Below.heap_setCell w8 ⟨lp + 1 + 1, 1, none⟩ u gi hne))
      exact ⟨nm, gi, off2, n2, c2, bs2, rfl, h.nms, by have := h.li; omega, by simpa [World.setCell] using h.gt, fun i hi => (World.cell?_of_block (w := w8) (a := ⟨gi, off2 + i, none⟩) hk).trans (h1 i hi), h2, h3, h4, (((h.rd.below HB2.out (by omega) (by omega)).setCell (by show w.heap.size ≤ lp + 1 + 1; omega) _).setCell (by simp) _).setCell (by simp) _⟩)
    have HRD : Hid (∀ u, RdTo (w.heap.size + 1) _ w2 (w8.setCell ⟨lp + 1 + 1, 1, none⟩ u)) := Lib.hid (fun u => HS8.out.rd.setFar HS8.out.BL ⟨lp + 1 + 1, 1, none⟩ HS8.out.lv u)
    have HLT := Lib.hid HS8.out.lt
    by_cases hc : c' = 1
    · subst hc
      obtain rfl : n' = 1 := by omega
      go_upto_region 13 with fail
      have e0 : (w8.setCell ⟨lp + 1 + 1, 1, none⟩ (.slice (some ⟨gi, off, none⟩) 0 0)).cell? ⟨lp + 1 + 1, 0, none⟩ = some (.string nm) := (cell_other _ _ _ _ (ne_off (lp + 1 + 1) 1 0 (by omega))).trans c0
      have e1 : (w8.setCell ⟨lp + 1 + 1, 1, none⟩ (.slice (some ⟨gi, off, none⟩) 0 0)).cell? ⟨lp + 1 + 1, 1, none⟩ = some (.slice (some ⟨gi, off, none⟩) 0 0) := cell_same _ _ _ _ c1
      obtain ⟨d0, d1, g0, g1⟩ := HRES.out _ _ (HRD.out (.slice (some ⟨gi, off, none⟩) 0 0))
      have HF := Lib.hid (fun u0 u1 => HE2.out off 0 0 [] (.slice (some ⟨gi, off, none⟩) 0 0) u0 u1 (fun i hi => by simp at hi) rfl (by omega) (fun x hx => by cases hx))
      obtain ⟨w9, hw9⟩ : ∃ w9, w8.setCell ⟨lp + 1 + 1, 1, none⟩ (.slice (some ⟨gi, off, none⟩) 0 0) = w9 := ⟨_, rfl⟩
      rw [hw9] at e0 e1 d0 d1 g0 g1 HF ⊢
      clear hw9 c0 c1 f0 f1
      go_wp2_with fail
      refine bodyPost_ret (v := .agg #[.string nm, .slice (some ⟨gi, off, none⟩) 0 0]) (by simp [results, Try.f11, go_sem, d0, d1]) rfl ?_
      exact HF.out _ _
    · go_upto_region 13 with fail
      have e0 : (w8.setCell ⟨lp + 1 + 1, 1, none⟩ (.slice (some ⟨gi, off + 1, none⟩) (n' - 1) (c' - 1))).cell? ⟨lp + 1 + 1, 0, none⟩ = some (.string nm) := (cell_other _ _ _ _ (ne_off (lp + 1 + 1) 1 0 (by omega))).trans c0
      have e1 : (w8.setCell ⟨lp + 1 + 1, 1, none⟩ (.slice (some ⟨gi, off + 1, none⟩) (n' - 1) (c' - 1))).cell? ⟨lp + 1 + 1, 1, none⟩ = some (.slice (some ⟨gi, off + 1, none⟩) (n' - 1) (c' - 1)) := cell_same _ _ _ _ c1
      obtain ⟨d0, d1, g0, g1⟩ := HRES.out _ _ (HRD.out (.slice (some ⟨gi, off + 1, none⟩) (n' - 1) (c' - 1)))
      have HF := Lib.hid (fun u0 u1 => HE2.out (off + 1) (n' - 1) (c' - 1) bs.tail (.slice (some ⟨gi, off + 1, none⟩) (n' - 1) (c' - 1)) u0 u1 (fun i hi => by
        have hi2 : i + 1 < bs.length := by simp at hi; omega
        have h0 := HS8.out.ints (i + 1) hi2
        have e : bth bs.tail i = bth bs (i + 1) := by
          rw [bth_get _ _ hi, bth_get _ _ hi2]; simp
        rw [e, show off + 1 + i = off + (i + 1) from by omega]
        exact h0) (by rw [List.length_tail, HS8.out.len]) (by have := HS8.out.n6; omega) (fun x hx => HS8.out.sm x (List.mem_of_mem_tail hx)))
      obtain ⟨w9, hw9⟩ : ∃ w9, w8.setCell ⟨lp + 1 + 1, 1, none⟩ (.slice (some ⟨gi, off + 1, none⟩) (n' - 1) (c' - 1)) = w9 := ⟨_, rfl⟩
      rw [hw9] at e0 e1 d0 d1 g0 g1 HF ⊢
      clear hw9 c0 c1 f0 f1
      go_wp2_with fail
      refine bodyPost_ret (v := .agg #[.string nm, .slice (some ⟨gi, off + 1, none⟩) (n' - 1) (c' - 1)]) (by simp [results, Try.f11, go_sem, d0, d1]) rfl ?_
      exact HF.out _ _
  have x3 : (y == 0) = false := by simpa using hy0
  have x4 : (y == 1) = false := by simpa using hy1
  have x5 : (y == 2) = false := by simpa using hy2
  have c0 := HS8.out.c0
  have c1 := HS8.out.c1
  obtain ⟨d0, d1, g0, g1⟩ := HRES.out _ _ HS8.out.rd
  go_wp2_with fail
  refine bodyPost_ret (v := .agg #[.string nm, .slice (some ⟨gi, off, none⟩) n' c']) (by simp [results, Try.f11, go_sem, d0, d1]) rfl ?_
  exact HEND.out _ _ _ _ _ _ _ _ HS8.out _ _

open Go.RowKit
set_option linter.unusedVariables false
set_option maxRecDepth 100000

theorem row8_later {B C D : Nat} {w w' : World} {a : Option Addr} {len : Nat} (h : Row8 B w a len) (hb : Below C w w') (hB : B ≤ C) (hC : C ≤ D) : Row8 D w' a len := by
  rcases h with h | ⟨x, h1, h2, h3⟩
  · exact .inl h
  · refine .inr ⟨x, h1, by omega, fun i hi => ?_⟩
    obtain ⟨z, hz, h4⟩ := h3 i hi
    exact ⟨z, (hb.cell (by rw [add_block]; omega)).trans hz, h4⟩

/-- The result's box rb and the law's box bv, with a drawn disk in it, behind some asks. -/
structure DuSt (w2 : World) (B P rb bv : Nat) (nm : ByteArray) (g off n c : Nat) (bs : List Int) (W : World) : Prop where
  rd : RdTo B P w2 W
  BL : B < w2.heap.size
  lr : rb < w2.heap.size
  lv : bv < w2.heap.size
  lg : g < w2.heap.size
  nr : rb ≠ B
  nv : bv ≠ B
  ng : g ≠ B
  nb : rb ≠ bv
  ngr : g ≠ rb
  r0 : W.cell? ⟨rb, 0, none⟩ = some (.string ⟨#[]⟩)
  r1 : W.cell? ⟨rb, 1, none⟩ = some (.slice none 0 0)
  f0 : W.frozen? ⟨rb, 0, none⟩ = false
  f1 : W.frozen? ⟨rb, 1, none⟩ = false
  rz : ∀ (i : Nat) (z : Int), W.cell? ⟨rb, i, none⟩ ≠ some (.int .u8 z)
  c0 : W.cell? ⟨bv, 0, none⟩ = some (.string nm)
  c1 : W.cell? ⟨bv, 1, none⟩ = some (.slice (some ⟨g, off, none⟩) n c)
  ints : IntsAt W g off bs

theorem DuSt.ask {w2 : World} {B P rb bv : Nat} {nm : ByteArray} {g off n c : Nat} {bs : List Int} {W : World} (h : DuSt w2 B P rb bv nm g off n c bs W) {Q : Nat} {W' : World} (hr : RdTo B Q W W') : DuSt w2 B Q rb bv nm g off n c bs W' := by
  have h0 := h.rd.2.size
  have hk : ∀ k, k < w2.heap.size → k ≠ B → W'.heap[k]? = W.heap[k]? := fun k h1 h2 => hr.2.block k (by omega) (fun e => h2 (by injection e))
  have cc : ∀ t i, t < w2.heap.size → t ≠ B → W'.cell? ⟨t, i, none⟩ = W.cell? ⟨t, i, none⟩ := fun t i a c => World.cell?_of_block (w := W) (a := ⟨t, i, none⟩) (hk t a c)
  have ff : ∀ t i, t < w2.heap.size → t ≠ B → W'.frozen? ⟨t, i, none⟩ = W.frozen? ⟨t, i, none⟩ := fun t i a c => World.frozen?_of_block (w := W) (a := ⟨t, i, none⟩) (hk t a c)
  exact ⟨h.rd.trans hr, h.BL, h.lr, h.lv, h.lg, h.nr, h.nv, h.ng, h.nb, h.ngr, (cc _ 0 h.lr h.nr).trans h.r0, (cc _ 1 h.lr h.nr).trans h.r1, (ff _ 0 h.lr h.nr).trans h.f0, (ff _ 1 h.lr h.nr).trans h.f1, fun i z => by rw [cc _ i h.lr h.nr]; exact h.rz i z,
    (cc _ 0 h.lv h.nv).trans h.c0, (cc _ 1 h.lv h.nv).trans h.c1, fun i hi => (cc g (off + i) h.lg h.ng).trans (h.ints i hi)⟩

theorem DuSt.drew {w2 : World} {B P rb bv : Nat} {nm : ByteArray} {g off n c : Nat} {bs : List Int} {W : World} (h : DuSt w2 B P rb bv nm g off n c bs W) : DuSt w2 B P rb bv nm g off n c bs W.drew := h.ask ⟨h.rd.1, (drawn_drew (w := W)).grown _⟩

theorem DuSt.mono {w2 : World} {B P rb bv : Nat} {nm : ByteArray} {g off n c : Nat} {bs : List Int} {W : World} (h : DuSt w2 B P rb bv nm g off n c bs W) {Q : Nat} (hPQ : P ≤ Q) : DuSt w2 B Q rb bv nm g off n c bs W := { h with rd := h.rd.mono hPQ }

/-- A store into a block that holds no letter leaves the reader a reader. -/
theorem rd_far {B P rb : Nat} {W : World} (h : Rd B P W) (hne : rb ≠ B) (hno : ∀ (i : Nat) (z : Int), W.cell? ⟨rb, i, none⟩ ≠ some (.int .u8 z)) (j : Nat) (v : Value) : Rd B P (W.setCell ⟨rb, j, none⟩ v) := by
  obtain ⟨a, len, cap, p, h0, hp, hf, hpP, hl, hr⟩ := h
  have hk : ∀ q : Addr, q.block ≠ rb → (W.setCell ⟨rb, j, none⟩ v).cell? q = W.cell? q := fun q hq => World.cell?_of_block (w := W) (Below.heap_setCell W ⟨rb, j, none⟩ v _ hq)
  refine ⟨a, len, cap, p, (hk _ (Ne.symm hne)).trans h0, (hk _ (Ne.symm hne)).trans hp, (World.frozen?_setCell _ _ _ _).trans hf, hpP, hl, ?_⟩
  rcases Nat.eq_zero_or_pos len with rfl | hlen
  · exact .inl rfl
  rcases hr with hr | ⟨x, ha, hx, hc⟩
  · exact .inl hr
  · have hxr : x.block ≠ rb := by
      intro e
      obtain ⟨z, hz, _⟩ := hc 0 hlen
      obtain ⟨xb, xo, xs⟩ := x
      simp only at e
      subst e
      cases xs with
      | none => exact hno _ _ (by rw [add_lit] at hz; exact hz)
      | some s => simp [World.cell?, Addr.add] at hz; split at hz <;> simp at hz
    exact .inr ⟨x, ha, hx, fun i hi => by rw [hk _ (by rw [add_block]; exact hxr)]; exact hc i hi⟩

/-- The disk has been stored into the result's box. -/
structure DuEnd (w2 : World) (B rb : Nat) (nm : ByteArray) (g off n c : Nat) (bs : List Int) (W : World) : Prop where
  r0 : W.cell? ⟨rb, 0, none⟩ = some (.string nm)
  r1 : W.cell? ⟨rb, 1, none⟩ = some (.slice (some ⟨g, off, none⟩) n c)
  lt : g < W.heap.size
  ints : IntsAt W g off bs
  bel : ∀ (C : Nat) (w0 : World), Below C w0 w2 → C ≤ B → C ≤ rb → C ≤ w2.heap.size → Below C w0 W

theorem DuSt.ends {w2 : World} {B P rb bv : Nat} {nm : ByteArray} {g off n c : Nat} {bs : List Int} {W : World} (h : DuSt w2 B P rb bv nm g off n c bs W) :
    DuEnd w2 B rb nm g off n c bs ((W.setCell ⟨rb, 0, none⟩ (.string nm)).setCell ⟨rb, 1, none⟩ (.slice (some ⟨g, off, none⟩) n c)) := by
  have h0 := h.rd.2.size
  have h1 := h.lg
  refine ⟨(cell_other _ _ _ _ (ne_off rb 1 0 (by omega))).trans (cell_same _ _ _ _ h.r0), cell_same _ _ _ _ ((cell_other _ _ _ _ (ne_off rb 0 1 (by omega))).trans h.r1), by simp [World.setCell]; omega, fun i hi => ?_, fun C w0 hb hC hr hs => ?_⟩
  · refine (World.cell?_of_block (w := W) (a := ⟨g, off + i, none⟩) ?_).trans (h.ints i hi)
    exact (Below.heap_setCell _ _ _ g h.ngr).trans (Below.heap_setCell _ _ _ g h.ngr)
  · exact ((h.rd.below hb hC hs).setCell hr _).setCell hr _

theorem DuSt.rdEnd {w2 : World} {B P rb bv : Nat} {nm : ByteArray} {g off n c : Nat} {bs : List Int} {W : World} (h : DuSt w2 B P rb bv nm g off n c bs W) :
    Rd B P ((W.setCell ⟨rb, 0, none⟩ (.string nm)).setCell ⟨rb, 1, none⟩ (.slice (some ⟨g, off, none⟩) n c)) := by
  refine rd_far (rd_far h.rd.1 h.nr h.rz 0 _) h.nr (fun i z => ?_) 1 _
  by_cases e : i = 0
  · subst e; rw [cell_same _ _ _ _ h.r0]; simp
  · rw [cell_other _ _ _ _ (ne_off rb 0 i (by omega))]; exact h.rz i z

theorem DuEnd.ask {w2 : World} {B rb : Nat} {nm : ByteArray} {g off n c : Nat} {bs : List Int} {W : World} (h : DuEnd w2 B rb nm g off n c bs W) (ng : g ≠ B) (nr : rb ≠ B) {Q : Nat} {W' : World} (hr : RdTo B Q W W') : DuEnd w2 B rb nm g off n c bs W' := by
  have hl := World.block_lt_of_cell? W ⟨rb, 0, none⟩ h.r0
  have cc : ∀ t i, t < W.heap.size → t ≠ B → W'.cell? ⟨t, i, none⟩ = W.cell? ⟨t, i, none⟩ := fun t i a c => World.cell?_of_block (w := W) (a := ⟨t, i, none⟩) (hr.2.block t a (fun e => c (by injection e)))
  exact ⟨(cc _ 0 hl nr).trans h.r0, (cc _ 1 hl nr).trans h.r1, Nat.lt_of_lt_of_le h.lt hr.2.size, fun i hi => (cc g (off + i) h.lt ng).trans (h.ints i hi),
    fun C w0 hb hC hrb hs => hr.below (h.bel C w0 hb hC hrb hs) hC (Nat.le_of_lt (Nat.lt_of_le_of_lt hrb hl))⟩

set_option maxHeartbeats 6400000 in
theorem drawVolUses_any (a : Option Addr) (len cap : Nat) (w : World) (h1 : len ≤ cap) (h2 : cap ≤ 9223372036854775807) (hr : Row8 w.heap.size w a len) :
    Calls Try.prog 7 #[.slice a len cap] w fun e w' => ∃ nm g off n c bs, ∃ p : Int, e = .returned (.tuple #[.agg #[.string nm, .slice (some ⟨g, off, none⟩) n c], .int .i64 p]) ∧ nm.size ≤ 2 ∧ g < w'.heap.size ∧ IntsAt w' g off bs ∧ bs.length = n ∧ n ≤ 6 ∧ -1 ≤ p ∧ p ≤ 10 ∧ Below w.heap.size w w' := by
  have n1 := new_cells w #[.string ⟨#[]⟩, .slice none 0 0] 25
  have hbA : Below w.heap.size w (w.alloc (.cells #[.string ⟨#[]⟩, .slice none 0 0] 25)) := (Below.refl _ _).alloc (Nat.le_refl _) _
  have hr1 : Row8 (w.alloc (.cells #[.string ⟨#[]⟩, .slice none 0 0] 25)).heap.size (w.alloc (.cells #[.string ⟨#[]⟩, .slice none 0 0] 25)) a len :=
    row8_later hr hbA (Nat.le_refl _) (by simp)
  have HO := Lib.hid (l6Open_rd a len cap (w.alloc (.cells #[.string ⟨#[]⟩, .slice none 0 0] 25)) h1 h2 hr1)
  have HR1 := Lib.hid hr1
  have HN1 := Lib.hid n1
  have HBA := Lib.hid hbA
  clear n1 hr1 hbA hr
  go_enter Try.func7, Try.ntmps7
  go_wp2_with fail
  refine HO.out.mono ?_
  rintro e w1 ⟨rfl, hR1, hb1⟩
  have HD := Lib.hid (drawVolOk_any a len cap w1 h1 h2 (row8_later HR1.out hb1 (Nat.le_refl _) hb1.size))
  have HB1 := Lib.hid hb1
  have HRD := Lib.hid hR1
  have hs1 := hb1.size
  clear hb1 hR1 HO HR1
  simp only [World.size_alloc] at HRD hs1 ⊢
  go_wp2_with fail
  refine HD.out.mono ?_
  rintro e w1' ⟨nm, g, off, n, c, bs, rfl, hnm, hg0, hg1, hx, hl, hn6, hsm, hb⟩
  have hsb := hb.size
  have hX := boxed_vol w1' nm (some ⟨g, off, none⟩) n c bs 25 (.inr ⟨g, off, rfl, hx⟩)
  have hblt := HRD.out.lt
  have HDU : Hid (DuSt (w1'.alloc (.cells #[.string nm, .slice (some ⟨g, off, none⟩) n c] 25)) (w.heap.size + 1) 0 w.heap.size w1'.heap.size nm g off n c bs (w1'.alloc (.cells #[.string nm, .slice (some ⟨g, off, none⟩) n c] 25))) := Lib.hid (by
    have hk : ∀ k, k < w.heap.size + 1 → (w1'.alloc (.cells #[.string nm, .slice (some ⟨g, off, none⟩) n c] 25)).heap[k]? = (w.alloc (.cells #[.string ⟨#[]⟩, .slice none 0 0] 25)).heap[k]? := fun k hk =>
      ((Below.heap_alloc w1' _ k (by omega)).trans (hb.block k (by omega))).trans (HB1.out.block k (by simp; omega))
    have hkB : ∀ k, k < w1.heap.size → (w1'.alloc (.cells #[.string nm, .slice (some ⟨g, off, none⟩) n c] 25)).heap[k]? = w1.heap[k]? := fun k hk =>
      (Below.heap_alloc w1' _ k (by omega)).trans (hb.block k hk)
    refine ⟨RdTo.refl (HRD.out.kept (fun q hq => World.cell?_of_block (w := w1) (hkB _ (by omega))) (World.frozen?_of_block (w := w1) (a := ⟨w.heap.size + 1, 1, none⟩) (hkB _ (by show w.heap.size + 1 < _; omega)))), by simp; omega, by simp; omega, by simp, by simp; omega, by omega, by omega, by omega, by omega, by omega,
      (World.cell?_of_block (a := ⟨w.heap.size, 0, none⟩) (hk w.heap.size (by omega))).trans (HN1.out.1 0), (World.cell?_of_block (a := ⟨w.heap.size, 1, none⟩) (hk w.heap.size (by omega))).trans (HN1.out.1 1),
      (World.frozen?_of_block (a := ⟨w.heap.size, 0, none⟩) (hk w.heap.size (by omega))).trans (HN1.out.2 0), (World.frozen?_of_block (a := ⟨w.heap.size, 1, none⟩) (hk w.heap.size (by omega))).trans (HN1.out.2 1), (fun i z => by
        rw [World.cell?_of_block (a := ⟨w.heap.size, i, none⟩) (hk w.heap.size (by omega)), HN1.out.1 i]
        match i with
        | 0 => simp
        | 1 => simp
        | i + 2 => simp),
      hX.c0, hX.c1, (by rcases hX.ints with e | ⟨g', o', e, h⟩
                        · rw [e]; exact fun i hi => absurd hi (by simp)
                        · injection e with e; injection e with e1 e2; subst e1 e2; exact h)⟩)
  have HBZ : Hid (Below w.heap.size w (w1'.alloc (.cells #[.string nm, .slice (some ⟨g, off, none⟩) n c] 25))) := Lib.hid (((HBA.out.trans (HB1.out.mono (by simp))).trans (hb.mono (by omega))).alloc (by omega) _)
  have HL := Lib.hid hl
  have hz2 : w.heap.size ≤ (w1'.alloc (.cells #[.string nm, .slice (some ⟨g, off, none⟩) n c] 25)).heap.size := by simp; omega
  have HSM : Hid (∀ i, i < n → -1 ≤ bth bs i ∧ bth bs i ≤ 10) := Lib.hid (fun i hi => hsm _ (by rw [bth_get _ _ (by omega)]; exact List.getElem_mem _))
  clear hb hX hg0 hg1 hx hl hsm hsb hs1 hblt HD HRD HN1 HB1 HBA
  go_upto_region 3 with fail
  obtain ⟨w2, hw2⟩ : ∃ w2, (w1'.alloc (.cells #[.string nm, .slice (some ⟨g, off, none⟩) n c] 25)) = w2 := ⟨_, rfl⟩
  obtain ⟨rb, hrb⟩ : ∃ rb, w.heap.size = rb := ⟨_, rfl⟩
  obtain ⟨bv, hbv⟩ : ∃ bv, w1'.heap.size = bv := ⟨_, rfl⟩
  rw [hw2] at HDU HBZ hz2 ⊢
  rw [hbv, hrb] at HDU
  rw [hbv, hrb]
  clear hw2 hbv
  go_wp2_with fail
  go_loopw [6] (fun i wr => ∃ k : Nat, k ≤ 6 ∧ i = .int .i64 (k : Int) ∧ DuSt w2 (rb + 1) (2 * k) rb bv nm g off n c bs wr) (fun i _ => 6 - (intOf i).toNat)
  case atStart => exact ⟨0, by omega, rfl, HDU.out⟩
  case round =>
    obtain ⟨k, hk, rfl, hd⟩ := hrel
    by_cases hlt : k < 6
    · have c1 := hd.c1
      by_cases hn : 0 < n
      · have hn1 : (0 : Int) < (n : Int) := by omega
        have HP6 := Lib.hid (pick_any (rb + 1) _ 6 _ hd.rd.1 (by omega) (by omega))
        have HD6 := Lib.hid hd
        clear hd
        go_wp2_with fail
        refine HP6.out.mono ?_
        rintro e w4 ⟨r, rfl, r0, r1, hR⟩
        have hd4 := HD6.out.ask hR
        clear hR HD6 HP6 c1
        by_cases hr0 : 0 < r
        · have HD4 := Lib.hid hd4
          have HPN := Lib.hid (fun (W : World) (P : Nat) (hP : P ≤ 100) (h : RdTo (rb + 1) P w2 W) => pick_any (rb + 1) P n W h.1 (by omega) (by omega))
          have HC1 := Lib.hid (fun (W : World) (Q : Nat) (h : DuSt w2 (rb + 1) Q rb bv nm g off n c bs W) => h.c1)
          have c1 := hd4.drew.c1
          have HP4 := Lib.hid (pick_any (rb + 1) _ n _ hd4.drew.rd.1 (by omega) (by omega))
          clear hd4
          go_wp2_with fail
          go_region_with (go_at_call 17; refine HP4.out.mono ?_; rintro e w5 ⟨q, rfl, q0, q1, hR5⟩; have hS5 := HD4.out.drew.ask hR5; have c1 := hS5.c1; obtain ⟨j, rfl⟩ := Int.eq_ofNat_of_zero_le q0; have hj : j < n := (by omega); have hjc := hS5.ints j (by rw [HL.out]; exact hj); have HS5 := Lib.hid hS5; clear hR5 hS5)
          all_goals (
            have hsm := HSM.out j hj
            by_cases hb0 : 0 < bth bs j
            · have c0 := HS5.out.c0
              have z0 := HS5.out.r0
              have z1 := HS5.out.r1
              have f0 := HS5.out.f0
              have f1 := HS5.out.f1
              have HE := Lib.hid HS5.out.ends
              go_wp2_with fail
              have HE0 := HE.out.r0
              have HE1 := HE.out.r1
              refine bodyPost_ret (v := .tuple #[.agg #[.string nm, .slice (some ⟨g, off, none⟩) n c], .int .i64 (bth bs j)]) (by simp [results, Try.f7, go_sem, HE0, HE1]) rfl ⟨nm, g, off, n, c, bs, _, rfl, hnm, HE.out.lt, HE.out.ints, HL.out, hn6, by omega, by omega, HE.out.bel _ _ HBZ.out (by omega) (by omega) (by omega)⟩
            · have d0 : ¬ (0 < bth bs j) := hb0
              go_wp2_with fail
              go_roundw
              case rel => exact ⟨k + 1, by omega, by go_num, HS5.out.mono (by omega)⟩
              case measure => simp [intOf]; omega)
        · obtain rfl : r = 0 := by omega
          have HDQ := Lib.hid hd4
          have HPA := Lib.hid (pick_any (rb + 1) _ 10 _ HDQ.out.drew.rd.1 (by omega) (by omega))
          have HPB := Lib.hid (pick_any (rb + 1) _ 10 _ HDQ.out.drew.rdEnd (by omega) (by omega))
          have c0 := HDQ.out.c0
          have c1 := HDQ.out.c1
          have q0 := HDQ.out.r0
          have q1 := HDQ.out.r1
          have f0 := HDQ.out.f0
          have f1 := HDQ.out.f1
          clear hd4
          go_wp2_with fail
          go_region_with (go_at_call 17; first
            | (refine HPA.out.mono ?_; rintro e w7 ⟨p, rfl, p0, p1, hR7⟩; have hS7 := HDQ.out.drew.ask hR7; have c0 := hS7.c0; have c1 := hS7.c1; have q0 := hS7.r0; have q1 := hS7.r1; have f0 := hS7.f0; have f1 := hS7.f1; have HE := Lib.hid hS7.ends; clear hR7 hS7)
            | (refine HPB.out.mono ?_; rintro e w7 ⟨p, rfl, p0, p1, hR7⟩; have HE := Lib.hid (HDQ.out.drew.ends.ask HDQ.out.ng HDQ.out.nr hR7); clear hR7))
          all_goals (
            go_wp2_with fail
            have HE0 := HE.out.r0
            have HE1 := HE.out.r1
            refine bodyPost_ret (v := .tuple #[.agg #[.string nm, .slice (some ⟨g, off, none⟩) n c], .int .i64 p]) (by simp [results, Try.f7, go_sem, HE0, HE1]) rfl ⟨nm, g, off, n, c, bs, p, rfl, hnm, HE.out.lt, HE.out.ints, HL.out, hn6, by omega, by omega, HE.out.bel _ _ HBZ.out (by omega) (by omega) (by omega)⟩)
      · obtain rfl : n = 0 := by omega
        have HDQ := Lib.hid hd
        have HPA := Lib.hid (pick_any (rb + 1) _ 10 _ HDQ.out.drew.rd.1 (by omega) (by omega))
        have HPB := Lib.hid (pick_any (rb + 1) _ 10 _ HDQ.out.drew.rdEnd (by omega) (by omega))
        have c0 := HDQ.out.c0
        have c1 := HDQ.out.c1
        have q0 := HDQ.out.r0
        have q1 := HDQ.out.r1
        have f0 := HDQ.out.f0
        have f1 := HDQ.out.f1
        clear hd
        go_wp2_with fail
        go_region_with (go_at_call 17; first
          | (refine HPA.out.mono ?_; rintro e w7 ⟨p, rfl, p0, p1, hR7⟩; have hS7 := HDQ.out.drew.ask hR7; have c0 := hS7.c0; have c1 := hS7.c1; have q0 := hS7.r0; have q1 := hS7.r1; have f0 := hS7.f0; have f1 := hS7.f1; have HE := Lib.hid hS7.ends; clear hR7 hS7)
          | (refine HPB.out.mono ?_; rintro e w7 ⟨p, rfl, p0, p1, hR7⟩; have HE := Lib.hid (HDQ.out.drew.ends.ask HDQ.out.ng HDQ.out.nr hR7); clear hR7))
        all_goals (
          go_wp2_with fail
          have HE0 := HE.out.r0
          have HE1 := HE.out.r1
          refine bodyPost_ret (v := .tuple #[.agg #[.string nm, .slice (some ⟨g, off, none⟩) 0 c], .int .i64 p]) (by simp [results, Try.f7, go_sem, HE0, HE1]) rfl ⟨nm, g, off, 0, c, bs, p, rfl, hnm, HE.out.lt, HE.out.ints, HL.out, hn6, by omega, by omega, HE.out.bel _ _ HBZ.out (by omega) (by omega) (by omega)⟩)
    · obtain rfl : k = 6 := by omega
      have HDQ := Lib.hid hd
      have HPA := Lib.hid (pick_any (rb + 1) _ 10 _ HDQ.out.drew.rd.1 (by omega) (by omega))
      have HPB := Lib.hid (pick_any (rb + 1) _ 10 _ HDQ.out.drew.rdEnd (by omega) (by omega))
      have c0 := HDQ.out.c0
      have c1 := HDQ.out.c1
      have q0 := HDQ.out.r0
      have q1 := HDQ.out.r1
      have f0 := HDQ.out.f0
      have f1 := HDQ.out.f1
      clear hd
      go_wp2_with fail
      go_region_with (go_at_call 17; first
        | (refine HPA.out.mono ?_; rintro e w7 ⟨p, rfl, p0, p1, hR7⟩; have hS7 := HDQ.out.drew.ask hR7; have c0 := hS7.c0; have c1 := hS7.c1; have q0 := hS7.r0; have q1 := hS7.r1; have f0 := hS7.f0; have f1 := hS7.f1; have HE := Lib.hid hS7.ends; clear hR7 hS7)
        | (refine HPB.out.mono ?_; rintro e w7 ⟨p, rfl, p0, p1, hR7⟩; have HE := Lib.hid (HDQ.out.drew.ends.ask HDQ.out.ng HDQ.out.nr hR7); clear hR7))
      all_goals (
        go_wp2_with fail
        have HE0 := HE.out.r0
        have HE1 := HE.out.r1
        refine bodyPost_ret (v := .tuple #[.agg #[.string nm, .slice (some ⟨g, off, none⟩) n c], .int .i64 p]) (by simp [results, Try.f7, go_sem, HE0, HE1]) rfl ⟨nm, g, off, n, c, bs, p, rfl, hnm, HE.out.lt, HE.out.ints, HL.out, hn6, by omega, by omega, HE.out.bel _ _ HBZ.out (by omega) (by omega) (by omega)⟩)

open Go.RowKit
set_option linter.unusedVariables false
set_option maxRecDepth 100000

/-- The result's box rb, the pool's box pb with a drawn pool, behind some asks. -/
structure DtSt (w3 : World) (B P rb pb C gs cs : Nat) (a : Option Addr) (n c : Nat) (rs : List Rw) (p : Po) (W : World) : Prop where
  rd : RdTo B P w3 W
  BL : B < w3.heap.size
  lr : rb < w3.heap.size
  lp : pb < w3.heap.size
  nr : rb ≠ B
  np : pb ≠ B
  nrp : rb ≠ pb
  rC : rb < C
  BC : B < C
  r0 : W.cell? ⟨rb, 0, none⟩ = some (.string ⟨#[]⟩)
  r1 : W.cell? ⟨rb, 1, none⟩ = some (.slice none 0 0)
  f0 : W.frozen? ⟨rb, 0, none⟩ = false
  f1 : W.frozen? ⟨rb, 1, none⟩ = false
  p0 : W.cell? ⟨pb, 0, none⟩ = some (.slice (some ⟨gs, 0, none⟩) 8 cs)
  p1 : W.cell? ⟨pb, 1, none⟩ = some (.slice a n c)
  own : OwnP C W gs cs (.slice a n c) rs p

theorem DtSt.ask {w3 : World} {B P rb pb C gs cs : Nat} {a : Option Addr} {n c : Nat} {rs : List Rw} {p : Po} {W : World} (h : DtSt w3 B P rb pb C gs cs a n c rs p W) {Q : Nat} {W' : World} (hr : RdTo B Q W W') : DtSt w3 B Q rb pb C gs cs a n c rs p W' := by
  have h0 := h.rd.2.size
  have hk : ∀ k, k < w3.heap.size → k ≠ B → W'.heap[k]? = W.heap[k]? := fun k h1 h2 => hr.2.block k (by omega) (fun e => h2 (by injection e))
  have cc : ∀ t i, t < w3.heap.size → t ≠ B → W'.cell? ⟨t, i, none⟩ = W.cell? ⟨t, i, none⟩ := fun t i a c => World.cell?_of_block (w := W) (a := ⟨t, i, none⟩) (hk t a c)
  have ff : ∀ t i, t < w3.heap.size → t ≠ B → W'.frozen? ⟨t, i, none⟩ = W.frozen? ⟨t, i, none⟩ := fun t i a c => World.frozen?_of_block (w := W) (a := ⟨t, i, none⟩) (hk t a c)
  exact ⟨h.rd.trans hr, h.BL, h.lr, h.lp, h.nr, h.np, h.nrp, h.rC, h.BC, (cc _ 0 h.lr h.nr).trans h.r0, (cc _ 1 h.lr h.nr).trans h.r1, (ff _ 0 h.lr h.nr).trans h.f0, (ff _ 1 h.lr h.nr).trans h.f1,
    (cc _ 0 h.lp h.np).trans h.p0, (cc _ 1 h.lp h.np).trans h.p1, h.own.turn hr.2 h.BC⟩

theorem DtSt.drew {w3 : World} {B P rb pb C gs cs : Nat} {a : Option Addr} {n c : Nat} {rs : List Rw} {p : Po} {W : World} (h : DtSt w3 B P rb pb C gs cs a n c rs p W) : DtSt w3 B P rb pb C gs cs a n c rs p W.drew := h.ask ⟨h.rd.1, (drawn_drew (w := W)).grown _⟩

theorem DtSt.later {w3 : World} {B P rb pb C gs cs : Nat} {a : Option Addr} {n c : Nat} {rs : List Rw} {p : Po} {W : World} (h : DtSt w3 B P rb pb C gs cs a n c rs p W) {W' : World} (hb : Below W.heap.size W W') : DtSt w3 B P rb pb C gs cs a n c rs p W' := by
  have h0 := h.rd.2.size
  have h1 := h.BL
  refine h.ask ⟨h.rd.1.kept (fun q hq => hb.cell (by omega)) (World.frozen?_of_block (w := W) (a := ⟨B, 1, none⟩) (hb.block B (by omega))), ⟨hb.os, hb.tape, hb.output, hb.size, fun k hk _ => hb.block k hk⟩⟩

/-- The row of a drawn pool. -/
theorem DtSt.row {w3 : World} {B P rb pb C gs cs : Nat} {a : Option Addr} {n c : Nat} {rs : List Rw} {p : Po} {W : World} (h : DtSt w3 B P rb pb C gs cs a n c rs p W) (j : Nat) (hj : j < n) :
    ∃ gv gb cb, a = some ⟨gv, 0, none⟩ ∧ rb ≠ gv ∧ rb ≠ gb ∧ gb < W.heap.size ∧ W.cell? ⟨gv, j * 2, none⟩ = some (.string (vth p.vols j).name) ∧ W.cell? ⟨gv, j * 2 + 1, none⟩ = some (.slice (some ⟨gb, 0, none⟩) (vth p.vols j).blocks.length cb) ∧ IntsAt W gb 0 (vth p.vols j).blocks := by
  have hl := own_len h.own.vols
  obtain ⟨gv, cap, hav, hg, _, _, hrows, _⟩ := h.own.vols.rows (by omega)
  injection hav with ea
  have h0 := hrows j (by rw [h.own.vols.len]; omega)
  rw [Nat.zero_add] at h0
  obtain ⟨hnm, gb, cb, hrv, hgb, hlt, _, _, hi, _⟩ := h.own.vols.row j (by omega)
  rw [hnm, hrv] at h0
  have hc := h.rC
  exact ⟨gv, gb, cb, ea, by omega, by omega, hlt, h0.1, h0.2, hi.1⟩

/-- The answer lies there. -/
structure DtEnd (B rb gs cs : Nat) (nm : ByteArray) (g off n c : Nat) (bs : List Int) (xs : List Sl) (W : World) : Prop where
  r0 : W.cell? ⟨rb, 0, none⟩ = some (.string nm)
  r1 : W.cell? ⟨rb, 1, none⟩ = some (.slice (some ⟨g, off, none⟩) n c)
  ints : IntsAt W g off bs
  slv : Slv W (.slice (some ⟨gs, 0, none⟩) 8 cs) xs

theorem DtSt.slots {w3 : World} {B P rb pb C gs cs : Nat} {a : Option Addr} {n c : Nat} {rs : List Rw} {p : Po} {W : World} (h : DtSt w3 B P rb pb C gs cs a n c rs p W) (hl : p.slots.length = 8) (u0 u1 : Value) :
    Slv ((W.setCell ⟨rb, 0, none⟩ u0).setCell ⟨rb, 1, none⟩ u1) (.slice (some ⟨gs, 0, none⟩) 8 cs) p.slots := by
  have ho := (h.own.setLow ⟨rb, 0, none⟩ h.rC u0).setLow ⟨rb, 1, none⟩ h.rC u1
  exact ⟨_, _, _, rfl, hl, by omega, .inr ⟨gs, 0, rfl, ho.sl.1⟩⟩

theorem DtSt.ends {w3 : World} {B P rb pb C gs cs : Nat} {a : Option Addr} {n c : Nat} {rs : List Rw} {p : Po} {W : World} (h : DtSt w3 B P rb pb C gs cs a n c rs p W) (hl : p.slots.length = 8)
    {nm : ByteArray} {g off m k : Nat} {bs : List Int} (hx : IntsAt W g off bs) (hg : rb ≠ g) :
    DtEnd B rb gs cs nm g off m k bs p.slots ((W.setCell ⟨rb, 0, none⟩ (.string nm)).setCell ⟨rb, 1, none⟩ (.slice (some ⟨g, off, none⟩) m k)) :=
  ⟨(cell_other _ _ _ _ (ne_off rb 1 0 (by omega))).trans (cell_same _ _ _ _ h.r0), cell_same _ _ _ _ ((cell_other _ _ _ _ (ne_off rb 0 1 (by omega))).trans h.r1),
    fun i hi => (World.cell?_of_block (w := W) (a := ⟨g, off + i, none⟩) ((Below.heap_setCell _ _ _ g (Ne.symm hg)).trans (Below.heap_setCell _ _ _ g (Ne.symm hg)))).trans (hx i hi), h.slots hl _ _⟩

theorem DtSt.pbox {w3 : World} {B P rb pb C gs cs : Nat} {a : Option Addr} {n c : Nat} {rs : List Rw} {p : Po} {W : World} (h : DtSt w3 B P rb pb C gs cs a n c rs p W) (u0 u1 : Value) :
    ((W.setCell ⟨rb, 0, none⟩ u0).setCell ⟨rb, 1, none⟩ u1).cell? ⟨pb, 0, none⟩ = some (.slice (some ⟨gs, 0, none⟩) 8 cs) :=
  (World.cell?_of_block (w := W) (a := ⟨pb, 0, none⟩) ((Below.heap_setCell _ _ _ pb (Ne.symm h.nrp)).trans (Below.heap_setCell _ _ _ pb (Ne.symm h.nrp)))).trans h.p0

set_option maxHeartbeats 6400000 in
theorem drawVolText_any (a : Option Addr) (len cap : Nat) (w : World) (h1 : len ≤ cap) (h2 : cap ≤ 9223372036854775807) (hr : Row8 w.heap.size w a len) :
    Calls Try.prog 13 #[.slice a len cap] w fun e w' => ∃ nm g off n c bs gs cs xs, e = .returned (.tuple #[.agg #[.string nm, .slice (some ⟨g, off, none⟩) n c], .slice (some ⟨gs, 0, none⟩) 8 cs]) ∧
      nm.size ≤ 2 ∧ IntsAt w' g off bs ∧ bs.length = n ∧ n ≤ 6 ∧ Slv w' (.slice (some ⟨gs, 0, none⟩) 8 cs) xs ∧ Fits xs ∧ Below w.heap.size w w' := by
  have n1 := new_cells w #[.string ⟨#[]⟩, .slice none 0 0] 25
  have hbA : Below w.heap.size w (w.alloc (.cells #[.string ⟨#[]⟩, .slice none 0 0] 25)) := (Below.refl _ _).alloc (Nat.le_refl _) _
  have hr1 : Row8 (w.alloc (.cells #[.string ⟨#[]⟩, .slice none 0 0] 25)).heap.size (w.alloc (.cells #[.string ⟨#[]⟩, .slice none 0 0] 25)) a len :=
    row8_later hr hbA (Nat.le_refl _) (by simp)
  have HO := Lib.hid (l6Open_rd a len cap (w.alloc (.cells #[.string ⟨#[]⟩, .slice none 0 0] 25)) h1 h2 hr1)
  have HR1 := Lib.hid hr
  have HN1 := Lib.hid n1
  have HBA := Lib.hid hbA
  clear n1 hr1 hbA hr
  go_enter Try.func13, Try.ntmps13
  go_wp2_with fail
  refine HO.out.mono ?_
  rintro e w1 ⟨rfl, hR1, hb1⟩
  have HB1 := Lib.hid hb1
  have HRD := Lib.hid hR1
  have hs1 := hb1.size
  clear hb1 hR1 HO
  simp only [World.size_alloc] at HRD hs1 ⊢
  have hblt := HRD.out.lt
  go_wp2_with fail
  refine (l71Pool_any _ 0 w1 HRD.out (by omega)).mono ?_
  rintro e w2 ⟨gs, cs, av, n, c, rs, p, rfl, hD, hO, hR2⟩
  have HD := Lib.hid hD
  have hs2 := hR2.2.size
  have n3 := new_cells w2 #[.slice (some ⟨gs, 0, none⟩) 8 cs, .slice av n c] 50
  have HDT : Hid (DtSt (w2.alloc (.cells #[.slice (some ⟨gs, 0, none⟩) 8 cs, .slice av n c] 50)) (w.heap.size + 1) (0 + 3000) w.heap.size w2.heap.size (w1.heap.size + 1) gs cs av n c rs p (w2.alloc (.cells #[.slice (some ⟨gs, 0, none⟩) 8 cs, .slice av n c] 50))) := Lib.hid (by
    have hk : ∀ k, k < w.heap.size + 1 → (w2.alloc (.cells #[.slice (some ⟨gs, 0, none⟩) 8 cs, .slice av n c] 50)).heap[k]? = (w.alloc (.cells #[.string ⟨#[]⟩, .slice none 0 0] 25)).heap[k]? := fun k hk =>
      ((Below.heap_alloc w2 _ k (by omega)).trans (hR2.2.block k (by omega) (fun e => by injection e with e; omega))).trans (HB1.out.block k (by simp; omega))
    exact ⟨RdTo.refl (hR2.1.alloc _), by simp; omega, by simp; omega, by simp, by omega, by omega, by omega, by omega, by omega,
      (World.cell?_of_block (a := ⟨w.heap.size, 0, none⟩) (hk w.heap.size (by omega))).trans (HN1.out.1 0), (World.cell?_of_block (a := ⟨w.heap.size, 1, none⟩) (hk w.heap.size (by omega))).trans (HN1.out.1 1),
      (World.frozen?_of_block (a := ⟨w.heap.size, 0, none⟩) (hk w.heap.size (by omega))).trans (HN1.out.2 0), (World.frozen?_of_block (a := ⟨w.heap.size, 1, none⟩) (hk w.heap.size (by omega))).trans (HN1.out.2 1),
      n3.1 0, n3.1 1, hO.below ((Below.refl w2.heap.size w2).alloc (Nat.le_refl _) _) (Nat.le_refl _)⟩)
  have HBZ : Hid (Below w.heap.size w (w2.alloc (.cells #[.slice (some ⟨gs, 0, none⟩) 8 cs, .slice av n c] 50))) := Lib.hid ((hR2.below (HBA.out.trans (HB1.out.mono (by simp))) (by omega) (by omega)).alloc (by omega) _)
  have hz3 : w.heap.size ≤ (w2.alloc (.cells #[.slice (some ⟨gs, 0, none⟩) 8 cs, .slice av n c] 50)).heap.size := by simp; omega
  have HNV := Lib.hid (own_len hO.vols)
  have HR3 := Lib.hid (fun (W : World) (h : Below w.heap.size w W) => row8_later (D := W.heap.size) HR1.out h (Nat.le_refl _) h.size)
  clear hD hO hR2 n3 hs1 hs2 hblt HRD HB1 HBA HN1 HR1
  go_upto_region 3 with fail
  obtain ⟨w3, hw3⟩ : ∃ w3, (w2.alloc (.cells #[.slice (some ⟨gs, 0, none⟩) 8 cs, .slice av n c] 50)) = w3 := ⟨_, rfl⟩
  obtain ⟨rb, hrb⟩ : ∃ rb, w.heap.size = rb := ⟨_, rfl⟩
  obtain ⟨pb, hpb⟩ : ∃ pb, w2.heap.size = pb := ⟨_, rfl⟩
  obtain ⟨C, hC⟩ : ∃ C, w1.heap.size + 1 = C := ⟨_, rfl⟩
  rw [hw3] at HDT HBZ hz3 ⊢
  rw [hpb, hC] at HDT
  rw [hpb, hrb]
  clear hw3 hpb hC
  have HL8 := Lib.hid HD.out.len
  have HFI := Lib.hid HD.out.slots.fits
  by_cases hn : 0 < n
  · have hn1 : (0 : Int) < (n : Int) := by omega
    have hn5 : n ≤ 5 := by have := HD.out.vlen; have := HNV.out; omega
    have HP6 := Lib.hid (pick_any (rb + 1) _ 6 w3 (by rw [← hrb]; exact HDT.out.rd.1) (by omega) (by omega))
    have p1 := HDT.out.p1
    go_wp2_with fail
    refine HP6.out.mono ?_
    rintro e w4 ⟨r, rfl, r0, r1, hR⟩
    rw [hrb] at HDT
    have hd4 := HDT.out.ask hR
    clear hR HP6 p1
    by_cases hr0 : 0 < r
    · obtain ⟨gv, _, _, hav, _⟩ := hd4.row 0 hn
      have HAV := Lib.hid hav
      have HDQ := Lib.hid hd4
      have HPN := Lib.hid (pick_any (rb + 1) _ n w4.drew HDQ.out.drew.rd.1 (by omega) (by omega))
      have q0 := HDQ.out.r0
      have q1 := HDQ.out.r1
      have f0 := HDQ.out.f0
      have f1 := HDQ.out.f1
      have p0 := HDQ.out.p0
      have p1 := HDQ.out.p1
      subst hav
      clear hd4
      go_wp2_with fail
      go_region_with (go_at_call 17; refine HPN.out.mono ?_; rintro e w7 ⟨j, rfl, j0, j1, hR7⟩; have hS7 := HDQ.out.drew.ask hR7; obtain ⟨j, rfl⟩ := Int.eq_ofNat_of_zero_le j0; obtain ⟨gv2, gb, cb, ea, ng, nb, _, x0, x1, hxi⟩ := hS7.row j (by omega); obtain rfl : gv = gv2 := (by injection ea with h; injection h); have q0 := hS7.r0; have q1 := hS7.r1; have f0 := hS7.f0; have f1 := hS7.f1; have p0 := hS7.p0; have p1 := hS7.p1; have s0 := hS7.pbox (.string (vth p.vols j).name) (.slice (some ⟨gb, 0, none⟩) (vth p.vols j).blocks.length cb); have HE := Lib.hid (hS7.ends (nm := (vth p.vols j).name) (m := (vth p.vols j).blocks.length) (k := cb) HL8.out hxi nb); have HBE := Lib.hid (((hS7.rd.below HBZ.out (by omega) hz3).setCell (p := ⟨rb, 0, none⟩) (by show w.heap.size ≤ rb; omega) (.string (vth p.vols j).name)).setCell (p := ⟨rb, 1, none⟩) (by show w.heap.size ≤ rb; omega) (.slice (some ⟨gb, 0, none⟩) (vth p.vols j).blocks.length cb)); have y1 : IntKind.i64.wrap (j : Int) = (j : Int) := IntWalk.i64_in _ (by omega); have y5 : (j : Int) < n := (by omega); have y6 : ¬ (j : Int) < 0 := (by omega); have y7 : ¬ (n : Int) ≤ (j : Int) := (by omega); have HJ := Lib.hid (HD.out.vols j (by have := HNV.out; omega)); clear hS7 hR7 hxi ea)
      all_goals (
        go_wp2_with fail
        have HE0 := HE.out.r0
        have HE1 := HE.out.r1
        refine bodyPost_ret (v := .tuple #[.agg #[.string (vth p.vols j).name, .slice (some ⟨gb, 0, none⟩) (vth p.vols j).blocks.length cb], .slice (some ⟨gs, 0, none⟩) 8 cs]) (by simp [results, Try.f13, go_sem, HE0, HE1]) rfl ⟨_, gb, 0, _, cb, _, gs, cs, p.slots, rfl, HJ.out.1, HE.out.ints, rfl, HJ.out.2.2.1, HE.out.slv, HFI.out, HBE.out⟩)
    · obtain rfl : r = 0 := by omega
      have HDQ := Lib.hid hd4
      have HDO := Lib.hid (drawVolOk_any a len cap w4.drew h1 h2 (HR3.out _ (HDQ.out.drew.rd.below HBZ.out (by omega) hz3)))
      have q0 := HDQ.out.r0
      have q1 := HDQ.out.r1
      have f0 := HDQ.out.f0
      have f1 := HDQ.out.f1
      have p0 := HDQ.out.p0
      go_wp2_with fail
      go_region_with (go_at_call 11; refine HDO.out.mono ?_; rintro e w7 ⟨nm, g, off, m, k, bs, rfl, hnm, hg0, _, hx, hl, hm6, hsm, hb7⟩; have hS7 := HDQ.out.drew.later hb7; have q0 := hS7.r0; have q1 := hS7.r1; have f0 := hS7.f0; have f1 := hS7.f1; have p0 := hS7.p0; have s0 := hS7.pbox (.string nm) (.slice (some ⟨g, off, none⟩) m k); have HE := Lib.hid (hS7.ends (nm := nm) (m := m) (k := k) HL8.out hx (by have h := HDQ.out.lr; have h2 := HDQ.out.rd.2.size; have h3 : w4.heap.size ≤ g := hg0; omega)); have HBE := Lib.hid (((hS7.rd.below HBZ.out (by omega) hz3).setCell (p := ⟨rb, 0, none⟩) (by show w.heap.size ≤ rb; omega) (.string nm)).setCell (p := ⟨rb, 1, none⟩) (by show w.heap.size ≤ rb; omega) (.slice (some ⟨g, off, none⟩) m k)); clear hS7 hb7 hx hg0 hsm)
      all_goals (
        go_wp2_with fail
        have HE0 := HE.out.r0
        have HE1 := HE.out.r1
        refine bodyPost_ret (v := .tuple #[.agg #[.string nm, .slice (some ⟨g, off, none⟩) m k], .slice (some ⟨gs, 0, none⟩) 8 cs]) (by simp [results, Try.f13, go_sem, HE0, HE1]) rfl ⟨nm, g, off, m, k, bs, gs, cs, p.slots, rfl, hnm, HE.out.ints, hl, hm6, HE.out.slv, HFI.out, HBE.out⟩)
  · obtain rfl : n = 0 := by omega
    rw [hrb] at HDT
    have p1 := HDT.out.p1
    have HDQ := Lib.hid HDT.out
    have HDO := Lib.hid (drawVolOk_any a len cap w3.drew h1 h2 (HR3.out _ (HDQ.out.drew.rd.below HBZ.out (by omega) hz3)))
    have q0 := HDQ.out.r0
    have q1 := HDQ.out.r1
    have f0 := HDQ.out.f0
    have f1 := HDQ.out.f1
    have p0 := HDQ.out.p0
    go_wp2_with fail
    go_region_with (go_at_call 11; refine HDO.out.mono ?_; rintro e w7 ⟨nm, g, off, m, k, bs, rfl, hnm, hg0, _, hx, hl, hm6, hsm, hb7⟩; have hS7 := HDQ.out.drew.later hb7; have q0 := hS7.r0; have q1 := hS7.r1; have f0 := hS7.f0; have f1 := hS7.f1; have p0 := hS7.p0; have s0 := hS7.pbox (.string nm) (.slice (some ⟨g, off, none⟩) m k); have HE := Lib.hid (hS7.ends (nm := nm) (m := m) (k := k) HL8.out hx (by have h := HDQ.out.lr; have h2 := HDQ.out.rd.2.size; have h3 : w3.heap.size ≤ g := hg0; omega)); have HBE := Lib.hid (((hS7.rd.below HBZ.out (by omega) hz3).setCell (p := ⟨rb, 0, none⟩) (by show w.heap.size ≤ rb; omega) (.string nm)).setCell (p := ⟨rb, 1, none⟩) (by show w.heap.size ≤ rb; omega) (.slice (some ⟨g, off, none⟩) m k)); clear hS7 hb7 hx hg0 hsm)
    all_goals (
      go_wp2_with fail
      have HE0 := HE.out.r0
      have HE1 := HE.out.r1
      refine bodyPost_ret (v := .tuple #[.agg #[.string nm, .slice (some ⟨g, off, none⟩) m k], .slice (some ⟨gs, 0, none⟩) 8 cs]) (by simp [results, Try.f13, go_sem, HE0, HE1]) rfl ⟨nm, g, off, m, k, bs, gs, cs, p.slots, rfl, hnm, HE.out.ints, hl, hm6, HE.out.slv, HFI.out, HBE.out⟩)

end Go.Proofs.Ytgogokahpmljbaa
