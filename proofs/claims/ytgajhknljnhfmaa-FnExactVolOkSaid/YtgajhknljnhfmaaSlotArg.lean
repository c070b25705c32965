/- A slice of the laws' own slots that comes in. -/
import Derived.Test.YtgajhknljnhfmaaSlotOwn
import Derived.Deep.SlicePairs
import Derived.ChangeArms
namespace Go.Proofs.Ytgajhknljnhfmaa
open Go.RowKit Go.ChangeShapes Go.WideShapes
set_option maxRecDepth 100000

instance : Inhabited Sl := ⟨Sl.none⟩

theorem nth_map (f : Nat → Sl) (n i : Nat) (h : i < n) : nth ((List.range n).map f) i = f i := by
  rw [nth_get _ _ (by simpa using h)]; simp

theorem open_slots {H : Type} {enc : TypeId × Value → H} {w : World} {base : Nat} {spare : Nat → Bool} {held : Bool} {fuel : Nat} {a : Option Addr} {len cap : Nat} {x : DataW H × List MemPlace}
    (h : DataW.trod enc Try.prog w base spare held fuel 59 [.slice a len cap] = some x) :
    ∃ xs : List Sl, Sls w a xs ∧ xs.length = len ∧ len ≤ 9223372036854775807 ∧ ∀ i, i < len → (nth xs i).text.size ≤ maxLen := by
  rcases Go.Deep.open_slice_pairs Try.underlying59 Try.underlying104 (by kernel_rfl) rfl rfl (by kernel_rfl) (by kernel_rfl) h with ⟨hcs, _⟩ | ⟨y, l, c, m, n, V0, V1, D0, D1, P0, P1, hcs, _, hl, hm, hmm, _, hi⟩
  · simp at hcs
    obtain ⟨rfl, rfl, rfl⟩ := hcs
    exact ⟨[], .inl rfl, rfl, by omega, fun i hi => by omega⟩
  · simp at hcs
    obtain ⟨rfl, rfl, rfl⟩ := hcs
    have hlm : len ≤ m := by rw [hmm]; split <;> omega
    unfold maxLen at hm
    have each : ∀ i, i < len → ∃ q : Sl, w.cell? (y.add (i * 2)) = some (.string q.text) ∧ w.cell? (y.add (i * 2 + 1)) = some (.int .i64 q.uses) ∧ q.text.size ≤ maxLen := by
      intro i hil
      obtain ⟨h1, h2, h3, h4⟩ := hi i (by omega)
      obtain ⟨s, hs, _, hsz⟩ := DataW.trod_string Try.underlying9 h3
      obtain ⟨u, hu, _, _⟩ := DataW.trod_int Try.underlying3 h4
      simp at hs hu
      rw [hs] at h1
      rw [hu] at h2
      exact ⟨⟨s, u⟩, h1, h2, hsz⟩
    obtain ⟨f, hf⟩ := Go.Deep.choose_lt each
    refine ⟨(List.range len).map f, ?_, by simp, by omega, fun i hil => by rw [nth_map f len i hil]; exact (hf i hil).2.2⟩
    rcases Nat.eq_zero_or_pos len with h0 | h0
    · exact .inl (by rw [h0]; rfl)
    · have hsp := World.cell?_spot (hf 0 h0).1
      have e0 : y.add (0 * 2) = y := by simp [Addr.add]
      rw [e0] at hsp
      obtain ⟨b, off, sp⟩ := y
      simp only at hsp
      subst hsp
      refine .inr ⟨b, off, rfl, fun i hil => ?_⟩
      have hil' : i < len := by simpa using hil
      rw [nth_map f len i hil']
      have h1 := (hf i hil').1
      have h2 := (hf i hil').2.1
      rw [add_lit] at h1 h2
      exact ⟨h1, by rw [Nat.add_assoc]; exact h2⟩

theorem szSlotS_any (a : Option Addr) (n cap : Nat) (xs : List Sl) (left : Int) (w : World) (hx : Sls w a xs) (hn : xs.length = n) (hn1 : n ≤ 9223372036854775807) (h0 : 0 ≤ left) (h1 : left ≤ 1048576) (ht : ∀ i, i < n → (nth xs i).text.size ≤ maxLen) :
    Calls Try.prog 49 #[.slice a n cap, .int .i64 left] w fun e w' => ∃ r : Int, e = .returned (.int .i64 r) ∧ (r < 0 ∨ (0 ≤ r ∧ r ≤ left ∧ (n : Int) ≤ left ∧ ∀ i, i < n → ((nth xs i).text.size : Int) ≤ left)) ∧ Below w.heap.size w w' := by
  unfold maxLen at ht
  by_cases hp : 0 < n
  · rcases hx with rfl | ⟨g, off, rfl, hx⟩
    · simp at hn; omega
    · exact szSlotS_some g off n cap xs left w hx hn hp hn1 h0 h1 (fun i hi => by have := ht i hi; omega)
  · obtain rfl : n = 0 := by omega
    clear hx hn ht
    go_enter Try.func49, Try.ntmps49
    go_wp2_with fail
    go_loop [1, 5] (fun l' i' => l' = .int .i64 left ∧ i' = .int .i64 0) (fun _ _ => 0)
    case atStart => exact ⟨rfl, rfl⟩
    case round =>
      obtain ⟨rfl, rfl⟩ := hrel
      go_wp2_with fail
      go_ret
      exact ⟨left, rfl, .inr (by omega), Below.refl _ _⟩

def Fits (xs : List Sl) : Prop := ∀ i, i < xs.length → (nth xs i).text.size ≤ maxLen

theorem storeOkS_v (v : Value) (xs : List Sl) (w : World) (h : Slv w v xs) (ht : Fits xs) :
    Calls Try.prog 32 #[v] w fun e w' => e = .returned (.bool (storeB xs)) ∧ Below w.heap.size w w' := by
  obtain ⟨a, n, c, rfl, hn, hn1, hs⟩ := h
  refine (storeOkS_any a n c xs w hs hn hn1 (by rw [← hn]; exact ht)).mono ?_
  rintro e w' ⟨he, hD⟩
  exact ⟨he, hD.below _⟩

theorem storeFindS_v (v : Value) (xs : List Sl) (t : ByteArray) (w : World) (h : Slv w v xs) (ht : Fits xs) (hts : t.size ≤ maxLen) :
    Calls Try.prog 39 #[v, .string t] w fun e w' => e = .returned (.tuple #[.int .i64 (findB xs t).1, .bool (findB xs t).2]) ∧ Below w.heap.size w w' := by
  obtain ⟨a, n, c, rfl, hn, hn1, hs⟩ := h
  refine (storeFindS_any a n c xs t w hs hn hn1 (by rw [← hn]; exact ht) hts).mono ?_
  rintro e w' ⟨he, hD⟩
  exact ⟨he, hD.below _⟩

theorem storePutS_v (v : Value) (xs : List Sl) (t : ByteArray) (w : World) (h : Slv w v xs) (ht : Fits xs) (hts : t.size ≤ maxLen) :
    Calls Try.prog 25 #[v, .string t] w fun e w' => ∃ v, e = .returned (.tuple #[v, .int .i64 (putB xs t).2.1, .bool (putB xs t).2.2]) ∧ NewSl w.heap.size w' v (putB xs t).1 ∧ Below w.heap.size w w' := by
  obtain ⟨a, n, c, rfl, hn, hn1, hs⟩ := h
  exact storePutS_any a n c xs t w hs hn hn1 (by rw [← hn]; exact ht) hts

theorem storeDropS_v (v : Value) (xs : List Sl) (place : Int) (w : World) (h : Slv w v xs) (ht : Fits xs) :
    Calls Try.prog 37 #[v, .int .i64 place] w fun e w' => ∃ v, e = .returned (.tuple #[v, .bool (dropB xs place).2]) ∧ NewSl w.heap.size w' v (dropB xs place).1 ∧ Below w.heap.size w w' := by
  obtain ⟨a, n, c, rfl, hn, hn1, hs⟩ := h
  exact storeDropS_any a n c xs place w hs hn hn1 (by rw [← hn]; exact ht)

end Go.Proofs.Ytgajhknljnhfmaa
