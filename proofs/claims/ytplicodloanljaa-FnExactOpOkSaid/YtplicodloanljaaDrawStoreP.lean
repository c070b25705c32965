/- What the draw of a store and a piece to be put answers. -/
import Derived.Test.YtplicodloanljaaDrawStoreX
import Derived.Test.YtplicodloanljaaStoreV
namespace Go.Proofs.Ytplicodloanljaa
open Go.RowKit

theorem DSt.slv {B P : Nat} {w0 w : World} {g off n c : Nat} {xs : List Sl} (h : DSt B P w0 w g off xs) (hl : xs.length = n) (hn : n ≤ 8) : Slv w (.slice (some ⟨g, off, none⟩) n c) xs :=
  ⟨_, _, _, rfl, hl, by omega, .inr ⟨g, off, rfl, h.sl.1⟩⟩

theorem Bnd.fits {lo : Int} {xs : List Sl} (h : Bnd lo xs) : Fits xs := fun i hi => by have := (h i hi).1; unfold maxLen; omega

theorem DSt.drawn {B P : Nat} {w0 w w' : World} {g off : Nat} {xs : List Sl} (h : DSt B P w0 w g off xs) (hb : Below w.heap.size w w') : DSt B P w0 w' g off xs := by
  have hB := h.rd.lt
  refine ⟨h.rd.kept (fun q hq => hb.cell (by omega)) (hb.frozen (p := ⟨B, 1, none⟩) hB), h.lt, Nat.lt_of_lt_of_le h.gs hb.size, h.new, ⟨h.sl.1.below hb h.gs, fun o => (hb.frozen (p := ⟨g, o, none⟩) h.gs).trans (h.sl.2 o)⟩, ?_⟩
  exact ⟨hb.os.trans h.gr.os, hb.tape.trans h.gr.tape, hb.output.trans h.gr.output, Nat.le_trans h.gr.size hb.size, fun k hk hn => (hb.block k (Nat.lt_of_lt_of_le hk h.gr.size)).trans (h.gr.block k hk hn)⟩

theorem Bnd.putOk {xs : List Sl} (h : Bnd (-1) xs) (hs : storeB xs = true) (t : ByteArray) (ht : t.size ≤ 20) : Bnd (-1) (putS xs t).1 := by
  have hl := storeB_len hs
  have h0 : Bnd 0 xs := fun i hi => ⟨(h i hi).1, (okB_range (storeB_ok hs i (by omega))).1, (h i hi).2.2⟩
  exact (h0.put t ht hl).low (by omega)

/-- Some small slots in block g, and the reader. -/
def PutSt (m : Int) (B : Nat) (w1 : World) (g off : Nat) (W : World) : Prop := ∃ zs : List Sl, zs.length = 8 ∧ Bnd 0 zs ∧ Cnt m zs ∧ DSt B 201 w1 W g off zs

theorem PutSt.drew {m : Int} {B : Nat} {w1 : World} {g off : Nat} {W : World} (h : PutSt m B w1 g off W) : PutSt m B w1 g off W.drew := by
  obtain ⟨zs, h1, h2, hc, h3⟩ := h
  exact ⟨zs, h1, h2, hc, ⟨h3.rd, h3.lt, h3.gs, h3.new, h3.sl, ⟨h3.gr.os, h3.gr.tape, h3.gr.output, h3.gr.size, h3.gr.block⟩⟩⟩

end Go.Proofs.Ytplicodloanljaa
