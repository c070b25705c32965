/- What the model's reader of drawn codes answers. -/
import Derived.Test.YtjnabljmeebpcaaText
import Derived.Deep.QuietTactic
import Derived.BigQuiet
import Derived.Deep.RegionHeld
namespace Go.Proofs.Ytjnabljmeebpcaa
open Go.RowKit

/-- A slice of bytes that lies below block B. -/
def Row8 (B : Nat) (w : World) (a : Option Addr) (len : Nat) : Prop :=
  len = 0 ∨ ∃ x, a = some x ∧ x.block < B ∧ ∀ i, i < len → ∃ z : Int, w.cell? (x.add i) = some (.int .u8 z) ∧ 0 ≤ z ∧ z ≤ 255

/-- A reader in block B that has been asked at most P times. -/
def Rd (B P : Nat) (w : World) : Prop :=
  ∃ a len cap, ∃ p : Nat, w.cell? ⟨B, 0, none⟩ = some (.slice a len cap) ∧ w.cell? ⟨B, 1, none⟩ = some (.int .i64 p) ∧ w.frozen? ⟨B, 1, none⟩ = false ∧
    p ≤ P ∧ len ≤ 2000 ∧ Row8 B w a len

theorem add_block (x : Addr) (i : Nat) : (x.add i).block = x.block := by unfold Addr.add; split <;> rfl

theorem mod_nat (p len : Nat) : ((p : Int) % len).toNat = p % len := by
  rw [show ((p : Int) % len) = ((p % len : Nat) : Int) from by push_cast; rfl]; rfl

theorem mod_nat7 (p len : Nat) : (((p : Int) * 7 + 3) % len).toNat = (p * 7 + 3) % len := by
  rw [show (((p : Int) * 7 + 3) % len) = (((p * 7 + 3) % len : Nat) : Int) from by push_cast; rfl]; rfl

theorem xor_i64 (a b : Nat) (ha : a < 4611686018427387904) (hb : b < 4611686018427387904) : bits .xor .i64 (a : Int) (b : Int) = ((a ^^^ b : Nat) : Int) := by
  have hx : a ^^^ b < 2 ^ 62 := Nat.xor_lt_two_pow (by omega) (by omega)
  have h1 : (BitVec.ofInt 64 (a : Int)).toNat = a := by
    rw [BitVec.ofInt_natCast, BitVec.toNat_ofNat]; exact Nat.mod_eq_of_lt (by omega)
  have h2 : (BitVec.ofInt 64 (b : Int)).toNat = b := by
    rw [BitVec.ofInt_natCast, BitVec.toNat_ofNat]; exact Nat.mod_eq_of_lt (by omega)
  show IntKind.i64.wrap ((BitVec.ofInt 64 (a : Int) ^^^ BitVec.ofInt 64 (b : Int)).toNat : Int) = _
  rw [BitVec.toNat_xor, h1, h2]
  exact IntWalk.i64_in _ (by omega)

theorem xor_range (X : Int) (h0 : 0 ≤ X) (h1 : X < 4611686018427387904) : 0 ≤ bits .xor .i64 X (X / 64) := by
  obtain ⟨a, rfl⟩ := Int.eq_ofNat_of_zero_le h0
  rw [show ((a : Int) / 64) = ((a / 64 : Nat) : Int) from by push_cast; rfl, xor_i64 a (a / 64) (by omega) (by omega)]
  omega

theorem mix_range (z1 z2 q p n : Int) (h10 : 0 ≤ z1) (h11 : z1 ≤ 255) (h20 : 0 ≤ z2) (h21 : z2 ≤ 255) (g5 : 0 ≤ q) (g6 : q ≤ p) (hp : p ≤ 1000000000) (hn : 1 ≤ n) :
    0 ≤ (bits .xor .i64 (z1 * 131 + z2 * 1117 + p * 29 + q * 53) ((z1 * 131 + z2 * 1117 + p * 29 + q * 53) / 64)).tmod n ∧
    (bits .xor .i64 (z1 * 131 + z2 * 1117 + p * 29 + q * 53) ((z1 * 131 + z2 * 1117 + p * 29 + q * 53) / 64)).tmod n < n := by
  have h := xor_range (z1 * 131 + z2 * 1117 + p * 29 + q * 53) (by omega) (by omega)
  generalize bits .xor .i64 (z1 * 131 + z2 * 1117 + p * 29 + q * 53) ((z1 * 131 + z2 * 1117 + p * 29 + q * 53) / 64) = y at *
  rw [Int.tmod_eq_emod_of_nonneg h]
  exact ⟨Int.emod_nonneg _ (by omega), Int.emod_lt_of_pos _ (by omega)⟩

theorem Row8.mono {B : Nat} {w w' : World} {a : Option Addr} {len : Nat} (h : Row8 B w a len) (hw : ∀ q : Addr, q.block < B → w'.cell? q = w.cell? q) : Row8 B w' a len := by
  rcases h with h | ⟨x, ha, hx, hc⟩
  · exact .inl h
  · refine .inr ⟨x, ha, hx, fun i hi => ?_⟩
    obtain ⟨z, hz, h0, h1⟩ := hc i hi
    exact ⟨z, by rw [hw _ (by rw [add_block]; exact hx)]; exact hz, h0, h1⟩

/-- The reader in block B behind one or more asks: it is a reader still, and beside new blocks nothing but its own block has turned. -/
def RdTo (B Q : Nat) (w w' : World) : Prop := Rd B Q w' ∧ w.grownBy w' (some B)

theorem grownBy_refl (w : World) (r : Option Nat) : w.grownBy w r := ⟨rfl, rfl, rfl, Nat.le_refl _, fun _ _ _ => rfl⟩

theorem grownBy_trans {a b c : World} {r : Option Nat} (h : a.grownBy b r) (k : b.grownBy c r) : a.grownBy c r :=
  ⟨k.os.trans h.os, k.tape.trans h.tape, k.output.trans h.output, Nat.le_trans h.size k.size,
    fun i hi hn => (k.block i (Nat.lt_of_lt_of_le hi h.size) hn).trans (h.block i hi hn)⟩

theorem drewN_heap (w : World) (n : Nat) : (w.drewN n).heap = w.heap := by
  rfl

theorem grownBy_step (w : World) (B : Nat) (v : Value) (n : Nat) : w.grownBy ((w.setCell ⟨B, 1, none⟩ v).drewN n) (some B) := by
  refine ⟨rfl, rfl, rfl, ?_, fun k hk hn => ?_⟩
  · show w.heap.size ≤ (w.setCell ⟨B, 1, none⟩ v).heap.size
    simp [World.setCell]
  · show (w.setCell ⟨B, 1, none⟩ v).heap[k]? = w.heap[k]?
    exact Below.heap_setCell w ⟨B, 1, none⟩ v k (fun e => hn (by rw [e]))

theorem cell_other (w : World) (p q : Addr) (v : Value) (h : p ≠ q) : (w.setCell p v).cell? q = w.cell? q := by
  exact World.cell?_setCell_other w p q v h

theorem rd_step {B P : Nat} {w : World} {a : Option Addr} {len cap p : Nat} (h0 : w.cell? ⟨B, 0, none⟩ = some (.slice a len cap)) (hp : w.cell? ⟨B, 1, none⟩ = some (.int .i64 p)) (hf : w.frozen? ⟨B, 1, none⟩ = false)
    (hP : p ≤ P) (hl : len ≤ 2000) (hr : Row8 B w a len) (n : Nat) : RdTo B (P + 1) w ((w.setCell ⟨B, 1, none⟩ (.int .i64 ((p : Int) + 1))).drewN n) := by
  refine ⟨⟨a, len, cap, p + 1, ?_, ?_, ?_, by omega, hl, ?_⟩, grownBy_step w B _ n⟩
  · show (w.setCell ⟨B, 1, none⟩ _).cell? ⟨B, 0, none⟩ = _
    exact (cell_other w ⟨B, 1, none⟩ ⟨B, 0, none⟩ _ (by intro e; cases e)).trans h0
  · show (w.setCell ⟨B, 1, none⟩ _).cell? ⟨B, 1, none⟩ = _
    rw [World.cell?_setCell_same' _ _ _ (by rw [hp]; rfl)]
    push_cast; rfl
  · show (w.setCell ⟨B, 1, none⟩ _).frozen? ⟨B, 1, none⟩ = _
    rw [World.frozen?_setCell]; exact hf
  · exact hr.mono (fun q hq => World.cell?_setCell_far _ _ _ _ (by show B ≠ q.block; omega))

end Go.Proofs.Ytjnabljmeebpcaa
