/- The program's chapter 2, asked about a slice by its value. What the laws' comparisons of slots answer. -/
import Derived.Test.YtaoaclmcmeaedaaStoreI
namespace Go.Proofs.Ytaoaclmcmeaedaa
open Go.RowKit

theorem sameSls_refl (xs : List Sl) : sameSls xs xs = true := by
  simp [sameSls, sameTo, sameSl]

theorem NewSl.below {B C : Nat} {w w' : World} {v : Value} {xs : List Sl} (h : NewSl B w v xs) (hb : Below C w w') (hC : w.heap.size ≤ C) : NewSl B w' v xs := by
  rcases h with h | ⟨g, cap, hv, h1, h2, h3, h4⟩
  · exact .inl h
  · refine .inr ⟨g, cap, hv, h1, Nat.lt_of_lt_of_le h2 hb.size, h3, h4.1.below hb (by omega), fun o => ?_⟩
    exact (hb.frozen (p := ⟨g, o, none⟩) (by show g < C; omega)).trans (h4.2 o)

theorem putB_len (xs : List Sl) (t : ByteArray) : (putB xs t).1.length ≤ xs.length := by
  unfold putB; split
  · rw [putS_len]; exact Nat.le_refl _
  · simp

theorem dropB_len (xs : List Sl) (p : Int) : (dropB xs p).1.length ≤ xs.length := by
  unfold dropB; split
  · rw [dropS_len]; exact Nat.le_refl _
  · simp

theorem eqSlotS_same (v1 v2 : Value) (xs : List Sl) (w : World) (hx : Slv w v1 xs) (hy : Slv w v2 xs) :
    Calls Try.prog 20 #[v1, v2] w fun e w' => e = .returned (.bool true) ∧ Below w.heap.size w w' := by
  have h := eqSlotS_any v1 v2 xs xs w hx hy
  rwa [sameSls_refl] at h

/-- Behind a call: whatever was there is as it was, with the sizes that the next step wants. -/
theorem bnext {w0 w w' : World} (h : Below w0.heap.size w0 w) (hb : Below w.heap.size w w') : Below w0.heap.size w0 w' := h.trans (hb.mono h.size)

theorem OwnSl.next {B E : Nat} {w w' : World} {v : Value} {xs : List Sl} (h : OwnSl B E w v xs) (hb : Below w.heap.size w w') (hE : E ≤ w.heap.size) : OwnSl B E w' v xs := h.below hb hE

end Go.Proofs.Ytaoaclmcmeaedaa

namespace Go.Proofs.Ytaoaclmcmeaedaa
open Go.RowKit
set_option maxRecDepth 100000

theorem equal_slot (t1 t2 : ByteArray) (u1 u2 : Int) (w : World) :
    (Op.equalIn 10000 82 (.agg #[.string t1, .int .i64 u1]) (.agg #[.string t2, .int .i64 u2])).run Try.prog w = .ok (t1.toList == t2.toList && u1 == u2) w := by
  rw [run_equalIn_struct w 9999 82 _ _ (by kernel_rfl) (by kernel_rfl)]
  have hf : Try.prog.fieldsOf 82 = (match Try.prog.underlying 82 with | some (.struct fs) => fs | _ => #[]) := rfl
  rw [hf, Try.underlying82]
  cases h : (t1.toList == t2.toList)
  · simp [Op.eqFields, go_sem, h]
  · by_cases hu : u1 = u2
    · simp [Op.eqFields, go_sem, h, hu]
    · have hu2 : (u1 == u2) = false := by simpa using hu
      simp [Op.eqFields, go_sem, h, hu2]

theorem neq_slot (t1 t2 : ByteArray) (u1 u2 : Int) (w : World) :
    (binOp .neq 82 (.agg #[.string t1, .int .i64 u1]) (.agg #[.string t2, .int .i64 u2])).run Try.prog w = .ok (.bool (!(t1.toList == t2.toList && u1 == u2))) w := by
  rw [run_neq_struct, equal_slot]
  rfl

theorem eql_slot (t1 t2 : ByteArray) (u1 u2 : Int) (w : World) :
    (binOp .eql 82 (.agg #[.string t1, .int .i64 u1]) (.agg #[.string t2, .int .i64 u2])).run Try.prog w = .ok (.bool (t1.toList == t2.toList && u1 == u2)) w := by
  rw [run_eql_struct, equal_slot]
  rfl

/-- All slots but number j + 1 are the same. -/
def butTo (xs ys : List Sl) (at' : Int) (k : Nat) : Bool := (List.range k).all fun i => decide ((i : Int) = at' - 1) || sameSl (nth xs i) (nth ys i)

end Go.Proofs.Ytaoaclmcmeaedaa
