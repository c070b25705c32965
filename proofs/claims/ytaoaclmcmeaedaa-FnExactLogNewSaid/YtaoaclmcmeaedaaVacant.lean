/- What the program's vacant answers: the first free slot of a table, going round: a step out of an iterator. What the program's put answers, and leaves in the table. -/
import Derived.Test.YtaoaclmcmeaedaaTable
import Derived.Test.YtaoaclmcmeaedaaNext
namespace Go.Proofs.Ytaoaclmcmeaedaa
open Go.RowKit Go.Shelf
attribute [local go_sem] Oper.semAt_some

/-- The number of a slot. -/
abbrev Spot := { x : Int // 1 ≤ x ∧ x ≤ 8 }

def spotAt (p : Int) (k : Nat) : Spot := ⟨(p - 1 + (k : Int)) % 8 + 1, by omega⟩

def spots (p : Int) (k : Nat) : List Spot := (List.range k).map (spotAt p)

def spotsFrom (p : Int) : List Spot := if 1 ≤ p ∧ p ≤ 8 then spots p 8 else []

theorem spots_succ (p : Int) (k : Nat) : spots p (k + 1) = spots p k ++ [spotAt p k] := by simp [spots, List.range_succ]

theorem spots_len (p : Int) (k : Nat) : (spots p k).length = k := by simp [spots]

theorem spots_eight (p : Int) (h : 1 ≤ p ∧ p ≤ 8) : spots p 8 = spotsFrom p := by simp [spotsFrom, h]

theorem spots_pre (p : Int) (k : Nat) (h : 1 ≤ p ∧ p ≤ 8) (hk : k ≤ 8) : spots p k <+: spotsFrom p := by
  rw [← spots_eight p h]
  refine ⟨((List.range 8).drop k).map (spotAt p), ?_⟩
  have : List.range k = (List.range 8).take k := by rw [List.take_range]; congr 1; omega
  rw [spots, this, ← List.map_append, List.take_append_drop]; rfl

theorem spots_no (p : Int) (hp : p < 1 ∨ 8 < p) : spotsFrom p = [] := by
  unfold spotsFrom; rw [if_neg (by omega)]

/-- A slot is free. -/
def freeAt (xs : List Sl) (x : Int) : Bool := (nth xs (x - 1).toNat).uses == 0

/-- The first free slot, going round; 0: there is none. -/
def tvac (xs : List Sl) (p : Int) : Int := match (spotsFrom p).find? (fun x => freeAt xs x.1) with
  | some x => x.1
  | none => 0

theorem tvac_none (xs : List Sl) (p : Int) (h : ∀ y ∈ spotsFrom p, freeAt xs y.1 = false) : tvac xs p = 0 := by
  have : (spotsFrom p).find? (fun x => freeAt xs x.1) = none := by
    rw [List.find?_eq_none]
    exact fun y hy => by simp [h y hy]
  simp only [tvac, this]

theorem tvac_first (xs : List Sl) (p : Int) (q : List Spot) (v : Spot) (hpre : q ++ [v] <+: spotsFrom p) (hq : ∀ y ∈ q, freeAt xs y.1 = false) (hv : freeAt xs v.1 = true) : tvac xs p = v.1 := by
  obtain ⟨rest, hr⟩ := hpre
  have : (spotsFrom p).find? (fun x => freeAt xs x.1) = some v := by
    rw [← hr, List.append_assoc, List.find?_append, List.find?_eq_none.2 (fun y hy => by simp [hq y hy])]
    simp [hv]
  simp only [tvac, this]

def NoFree (xs : List Sl) (pre : List Spot) : Prop := ∀ y ∈ pre, freeAt xs y.1 = false

/-- The walk has ended at a free slot, which lies in the result's cell. -/
def AtFree (xs : List Sl) (B : Nat) (pre : List Spot) (W : World) : Prop := ∃ (q : List Spot) (v : Spot), pre = q ++ [v] ∧ NoFree xs q ∧ freeAt xs v.1 = true ∧ W.cell? ⟨B, 0, none⟩ = some (.int .i64 v.1)

theorem NoFree.nil (xs : List Sl) : NoFree xs [] := fun y hy => by cases hy

theorem NoFree.snoc {xs : List Sl} {pre : List Spot} (h : NoFree xs pre) (x : Spot) (hx : freeAt xs x.1 = false) : NoFree xs (pre ++ [x]) := fun y hy =>
  (List.mem_append.1 hy).elim (h y) (fun e => by
    have e2 : y = x := by simpa using e
    rw [e2]; exact hx)

theorem atFree_own (xs : List Sl) (B0 B : Nat) (c : Code) : OwnFrom B0 (fun pre W => c = .ret ∧ AtFree xs B pre W) :=
  Own.from (fun s A B row hs hg hr => ⟨hs.1, by obtain ⟨q, v, h1, h2, h3, h4⟩ := hs.2; exact ⟨q, v, h1, h2, h3, cell_kept h4 hg hr⟩⟩) _

end Go.Proofs.Ytaoaclmcmeaedaa

namespace Go.Proofs.Ytaoaclmcmeaedaa
open Go.RowKit
set_option linter.unusedVariables false

theorem tvac_range (xs : List Sl) (p : Int) : 0 ≤ tvac xs p ∧ tvac xs p ≤ 8 := by
  unfold tvac
  cases (spotsFrom p).find? (fun x => freeAt xs x.1) with
  | none => simp
  | some v => have := v.2; simp only; omega

theorem tvac_free (xs : List Sl) (p : Int) (h : tvac xs p ≠ 0) : (nth xs (tvac xs p - 1).toNat).uses = 0 := by
  unfold tvac at h ⊢
  cases hf : (spotsFrom p).find? (fun x => freeAt xs x.1) with
  | none => rw [hf] at h; exact absurd rfl h
  | some v =>
    have := List.find?_some hf
    simpa [freeAt] using this

/-- The slot that a put takes. -/
def tspot (xs : List Sl) (t : ByteArray) (p : Int) : Int := if tfind xs t = 0 then tvac xs p else tfind xs t

def tput (xs : List Sl) (t : ByteArray) (p : Int) : List Sl × Int :=
  if tspot xs t p = 0 ∨ (nth xs (tspot xs t p - 1).toNat).uses = 99 then (xs, 0)
  else (xs.set (tspot xs t p - 1).toNat ⟨t, (nth xs (tspot xs t p - 1).toNat).uses + 1⟩, tspot xs t p)

theorem tput_no (xs : List Sl) (t : ByteArray) (p : Int) (h : tspot xs t p = 0) : tput xs t p = (xs, 0) := by
  unfold tput; rw [if_pos (.inl h)]

theorem tput_full (xs : List Sl) (t : ByteArray) (p : Int) (j : Nat) (h : tspot xs t p = (j : Int) + 1) (hu : (nth xs j).uses = 99) : tput xs t p = (xs, 0) := by
  unfold tput; rw [h, show ((j : Int) + 1 - 1).toNat = j from by omega, if_pos (.inr hu)]

theorem tput_yes (xs : List Sl) (t : ByteArray) (p : Int) (j : Nat) (h : tspot xs t p = (j : Int) + 1) (hu : (nth xs j).uses ≠ 99) : tput xs t p = (xs.set j ⟨t, (nth xs j).uses + 1⟩, (j : Int) + 1) := by
  unfold tput
  rw [h, show ((j : Int) + 1 - 1).toNat = j from by omega, if_neg (fun e => e.elim (fun e => by omega) hu)]

/-- The table has changed, and else only new blocks have come. -/
def TurnedTab (w w' : World) (g : Nat) : Prop := ∃ w1, Below w.heap.size w w1 ∧ w1.grownBy w' (some g)

end Go.Proofs.Ytaoaclmcmeaedaa
