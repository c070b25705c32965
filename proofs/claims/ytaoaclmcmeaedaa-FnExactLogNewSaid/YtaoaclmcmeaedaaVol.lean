/- What the model's functions on disks answer. What the model's VolText answers. What the laws' own helpers on disks answer. -/
import Derived.Test.YtaoaclmcmeaedaaPoolOps
import Derived.Deep.QuietTactic
import Derived.BigQuiet
namespace Go.Proofs.Ytaoaclmcmeaedaa
open Go.RowKit
set_option linter.unusedVariables false
set_option maxRecDepth 100000

/-- The cells from (g, off) on hold the blocks bs. -/
def IntsAt (w : World) (g off : Nat) (bs : List Int) : Prop := ∀ i, i < bs.length → w.cell? ⟨g, off + i, none⟩ = some (.int .i64 (bth bs i))

def Ints (w : World) (a : Option Addr) (bs : List Int) : Prop := bs = [] ∨ ∃ g off, a = some ⟨g, off, none⟩ ∧ IntsAt w g off bs

theorem ints_lt {w : World} {g off : Nat} {bs : List Int} (h : IntsAt w g off bs) (hn : 0 < bs.length) : g < w.heap.size :=
  World.block_lt_of_cell? w ⟨g, off + 0, none⟩ (h 0 hn)

theorem intsAt_below {w w' : World} {B g off : Nat} {bs : List Int} (h : IntsAt w g off bs) (hb : Below B w w') (hg : g < B) : IntsAt w' g off bs :=
  fun i hi => (hb.cell (p := ⟨g, off + i, none⟩) hg).trans (h i hi)

theorem ints_below {w w' : World} {B : Nat} {a : Option Addr} {bs : List Int} (h : Ints w a bs) (hb : Below B w w') (hB : w.heap.size ≤ B) : Ints w' a bs := by
  rcases h with h | ⟨g, off, e, hx⟩
  · exact .inl h
  · by_cases hl : 0 < bs.length
    · exact .inr ⟨g, off, e, intsAt_below hx hb (by have := ints_lt hx hl; omega)⟩
    · exact .inl (List.eq_nil_of_length_eq_zero (by omega))

theorem ints_at {w : World} {a : Option Addr} {bs : List Int} (h : Ints w a bs) (i : Nat) (hi : i < bs.length) : ∃ g off, a = some ⟨g, off, none⟩ ∧ IntsAt w g off bs := by
  rcases h with rfl | h
  · simp at hi
  · exact h

/-- A slice of blocks. -/
def Intv (w : World) (v : Value) (bs : List Int) : Prop := ∃ a n c, v = .slice a n c ∧ bs.length = n ∧ n ≤ 2000000 ∧ Ints w a bs

theorem intv_below {w w' : World} {B : Nat} {v : Value} {bs : List Int} (h : Intv w v bs) (hb : Below B w w') (hB : w.heap.size ≤ B) : Intv w' v bs := by
  obtain ⟨a, n, c, hv, hn, hn1, hs⟩ := h
  exact ⟨a, n, c, hv, hn, hn1, ints_below hs hb hB⟩

theorem nameB_one (s : ByteArray) (h : s.size = 1) : nameB s.data.toList = (decide (65 ≤ ((s[0]'(by omega)).toNat : Int)) && decide (((s[0]'(by omega)).toNat : Int) ≤ 68)) := by
  have e : s.data.toList = [s[0]'(by omega)] := by
    apply List.ext_getElem
    · simpa using h
    · intro i h1 h2
      have : i = 0 := by simp at h2; omega
      subst this; rfl
  rw [e]
  simp only [nameB]
  congr 1
  · simp only [decide_eq_decide]; omega
  · simp only [decide_eq_decide]; omega

theorem nameB_other (s : ByteArray) (h : s.size ≠ 1) : nameB s.data.toList = false := by
  have hl : s.data.toList.length = s.size := by simp
  match hh : s.data.toList with
  | [] => rfl
  | [c] => rw [hh] at hl; simp at hl; omega
  | c :: d :: r => rfl

theorem volB_bad (nm : ByteArray) (bs : List Int) (k : Nat) (hk : k < bs.length) (h : blkB (bth bs k) = false) : volB ⟨nm, bs⟩ = false := by
  have : bs.all blkB = false := by
    rw [List.all_eq_false]
    exact ⟨bth bs k, by rw [bth_get _ _ hk]; exact List.getElem_mem hk, by simp [h]⟩
  simp [volB, this]

theorem take_blk (bs : List Int) (k : Nat) (hk : k < bs.length) : bs.take (k + 1) = bs.take k ++ [bth bs k] := by
  rw [List.take_succ_eq_append_getElem hk, bth_get _ _ hk]

theorem all_blk (bs : List Int) (k : Nat) (hk : k < bs.length) (h : (bs.take k).all blkB = true) (h2 : blkB (bth bs k) = true) : (bs.take (k + 1)).all blkB = true := by
  rw [take_blk _ _ hk, List.all_append, h]; simp [h2]

/-- How often a place stands in the first k blocks. -/
def cntI (bs : List Int) (p : Int) : Nat → Int
  | 0 => 0
  | k + 1 => cntI bs p k + if (bth bs k == p) = true then 1 else 0

theorem cntI_take (bs : List Int) (p : Int) : ∀ k, k ≤ bs.length → cntI bs p k = ((bs.take k).count p : Nat)
  | 0, _ => by simp [cntI]
  | k + 1, h => by
    rw [cntI, cntI_take bs p k (by omega), take_blk _ _ (by omega), List.count_append, List.count_singleton]
    split <;> simp

theorem cntI_uses (nm : ByteArray) (bs : List Int) (p : Int) : cntI bs p bs.length = usesV ⟨nm, bs⟩ p := by
  rw [cntI_take bs p _ (Nat.le_refl _), List.take_length]; rfl

theorem cntI_range (bs : List Int) (p : Int) (k : Nat) : 0 ≤ cntI bs p k ∧ cntI bs p k ≤ k := by
  induction k with
  | zero => simp [cntI]
  | succ k ih => simp only [cntI]; split <;> omega

/-- VolUses. -/
def usesF (v : Vo) (p : Int) : Int := if (volB v && (decide (1 ≤ p) && decide (p ≤ 8))) = true then usesV v p else 0

end Go.Proofs.Ytaoaclmcmeaedaa

namespace Go.Proofs.Ytaoaclmcmeaedaa
open Go.RowKit
set_option linter.unusedVariables false
set_option maxRecDepth 100000

/-- What is told of a block. -/
def pieceAt (xs : List Sl) (b : Int) : ByteArray := if (b == 0) = true then ⟨#[45]⟩ else if ((nth xs (b - 1).toNat).uses == 0) = true then ⟨#[45]⟩ else (nth xs (b - 1).toNat).text

def textTo (nm : ByteArray) (xs : List Sl) (bs : List Int) : Nat → ByteArray
  | 0 => nm
  | k + 1 => textTo nm xs bs k ++ ⟨#[32]⟩ ++ pieceAt xs (bth bs k)

/-- VolText. -/
def textF (v : Vo) (xs : List Sl) : ByteArray := if (volB v && storeB xs) = true then textTo v.name xs v.blocks v.blocks.length else ⟨#[]⟩

theorem piece_size {xs : List Sl} (hs : storeB xs = true) (b : Int) (hb : b ≤ 8) : (pieceAt xs b).size ≤ 4 := by
  unfold pieceAt
  split
  · decide
  · split
    · decide
    · by_cases h : (b - 1).toNat < 8
      · have hok := storeB_ok hs (b - 1).toNat h
        simp only [okB, Bool.and_eq_true] at hok
        have := tokB_len hok.1.1
        simpa using this
      · omega

theorem nameB_size (s : ByteArray) (h : nameB s.data.toList = true) : s.size = 1 := by
  by_cases h1 : s.size = 1
  · exact h1
  · rw [nameB_other s h1] at h; cases h

theorem textTo_size {nm : ByteArray} {xs : List Sl} {bs : List Int} (hs : storeB xs = true) (hn : nm.size = 1) (hb : ∀ b ∈ bs, 0 ≤ b ∧ b ≤ 8) : ∀ k, k ≤ bs.length → (textTo nm xs bs k).size ≤ 1 + 5 * k
  | 0, _ => by simp [textTo, hn]
  | k + 1, h => by
    have h1 := textTo_size (nm := nm) hs hn hb k (by omega)
    have hm : bth bs k ∈ bs := by rw [bth_get _ _ (by omega)]; exact List.getElem_mem _
    have h2 := piece_size hs (bth bs k) (hb _ hm).2
    have e : (⟨#[32]⟩ : ByteArray).size = 1 := rfl
    simp only [textTo, ByteArray.size_append, e]; omega

end Go.Proofs.Ytaoaclmcmeaedaa

namespace Go.Proofs.Ytaoaclmcmeaedaa
open Go.RowKit
set_option linter.unusedVariables false
set_option maxRecDepth 100000

/-- The cells of block g hold the blocks bs, and may be written. -/
def IntsW (w : World) (g : Nat) (bs : List Int) : Prop := IntsAt w g 0 bs ∧ ∀ o, w.frozen? ⟨g, o, none⟩ = false

def NewInt (B : Nat) (w : World) (v : Value) (bs : List Int) : Prop :=
  (bs = [] ∧ ∃ a c, v = .slice a 0 c) ∨ ∃ g cap, v = .slice (some ⟨g, 0, none⟩) bs.length cap ∧ B ≤ g ∧ g < w.heap.size ∧ bs.length ≤ cap ∧ IntsW w g bs

theorem newInt_v {B : Nat} {w : World} {v : Value} {bs : List Int} (h : NewInt B w v bs) (hl : bs.length ≤ 2000000) : Intv w v bs := by
  rcases h with ⟨rfl, a, c, rfl⟩ | ⟨g, cap, rfl, _, _, _, hs⟩
  · exact ⟨a, 0, c, rfl, rfl, by omega, .inl rfl⟩
  · exact ⟨_, _, _, rfl, rfl, hl, .inr ⟨g, 0, rfl, hs.1⟩⟩

theorem newInt_mono {B C : Nat} {w : World} {v : Value} {bs : List Int} (h : NewInt B w v bs) (hC : C ≤ B) : NewInt C w v bs := by
  rcases h with h | ⟨g, cap, hv, h1, h2⟩
  · exact .inl h
  · exact .inr ⟨g, cap, hv, Nat.le_trans hC h1, h2⟩

theorem intsW_below {w w' : World} {g B : Nat} {bs : List Int} (h : IntsW w g bs) (hb : Below B w w') (hg : g < B) : IntsW w' g bs :=
  ⟨intsAt_below h.1 hb hg, fun o => (hb.frozen (p := ⟨g, o, none⟩) hg).trans (h.2 o)⟩

theorem newInt_below {B C : Nat} {w w' : World} {v : Value} {bs : List Int} (h : NewInt B w v bs) (hb : Below C w w') (hC : w.heap.size ≤ C) : NewInt B w' v bs := by
  rcases h with h | ⟨g, cap, hv, h1, h2, h3, h4⟩
  · exact .inl h
  · exact .inr ⟨g, cap, hv, h1, Nat.lt_of_lt_of_le h2 hb.size, h3, intsW_below h4 hb (by omega)⟩

theorem bth_set (bs : List Int) (i j : Nat) (x : Int) (h : i < bs.length) : bth (bs.set i x) j = if i = j then x else bth bs j := by
  unfold bth
  rw [List.getD_eq_getElem?_getD, List.getD_eq_getElem?_getD, List.getElem?_set]
  by_cases e : i = j
  · subst e; simp [h]
  · simp [e]

theorem intsW_set {w : World} {g : Nat} {bs : List Int} (h : IntsW w g bs) (i : Nat) (hi : i < bs.length) (x : Int) :
    IntsW (w.setCell ⟨g, i, none⟩ (.int .i64 x)) g (bs.set i x) := by
  refine ⟨fun j hj => ?_, fun o => by rw [World.frozen?_setCell]; exact h.2 o⟩
  rw [List.length_set] at hj
  rw [bth_set _ _ _ _ hi]
  have h1 := h.1 j hj
  rw [Nat.zero_add] at h1 ⊢
  by_cases e : i = j
  · subst e; rw [if_pos rfl]; exact cell_same _ _ _ _ h1
  · rw [if_neg e]; exact (cell_other _ _ _ _ (ne_off _ _ _ (by omega))).trans h1

theorem intsW_kept {w w' : World} {g : Nat} {bs : List Int} (h : IntsW w g bs) {r : Option Nat} (hg : w.grownBy w' r) (hl : g < w.heap.size) (hn : some g ≠ r) : IntsW w' g bs :=
  ⟨fun i hi => (World.cell?_of_block (w := w) (a := ⟨g, 0 + i, none⟩) (hg.block g hl hn)).trans (h.1 i hi), fun o => (World.frozen?_of_block (w := w) (a := ⟨g, o, none⟩) (hg.block g hl hn)).trans (h.2 o)⟩

theorem ints_ext (bs cs : List Int) (hl : bs.length = cs.length) (h : ∀ i, i < bs.length → bth bs i = bth cs i) : bs = cs := by
  apply List.ext_getElem hl
  intro i h1 h2
  rw [← bth_get bs i h1, ← bth_get cs i h2]
  exact h i h1

def cellI (bs : List Int) : List Value := bs.map (fun b => .int .i64 b)

theorem cellI_at (bs : List Int) (i : Nat) (h : i < bs.length) : (cellI bs)[i]? = some (.int .i64 (bth bs i)) := by
  simp [cellI, List.getElem?_eq_getElem h, bth_get _ _ h]

theorem ints_of_own {w : World} {base : Nat} {e : TypeId} {v : Value} {n : Nat} {bs : List Int} (h : w.ownsRow base e 1 v n (cellI bs)) (hn : 0 < n) (hl : bs.length = n) :
    ∃ g cap, v = .slice (some ⟨g, 0, none⟩) n cap ∧ base ≤ g ∧ g < w.heap.size ∧ n ≤ cap ∧ IntsW w g bs := by
  rcases h.2 with ⟨_, h'⟩ | ⟨g, cap, cur, rfl, hb, hcells, hcap, _⟩
  · omega
  have hlt : g < w.heap.size := (Array.getElem?_eq_some_iff.1 hcells).1
  refine ⟨g, cap, rfl, hb, hlt, hcap, fun i hi => ?_, fun o => h.frozenAt o⟩
  rw [Nat.zero_add, h.cellAt _ (by omega), cellI_at bs i hi]

theorem madeInts (n : Nat) : (madeCells (Value.int .i64 0).cells (n * 1)).toList = cellI (List.replicate n 0) := by
  apply List.ext_getElem?
  intro j
  have hc : (Value.int .i64 0).cells = #[.int .i64 0] := by kernel_rfl
  rw [hc]
  by_cases hj : j < n
  · rw [cellI_at _ j (by simpa using hj)]
    simp [madeCells, hj, bth, List.getD_eq_getElem?_getD, Nat.mod_one]
  · have h2 : (cellI (List.replicate n 0)).length = n := by simp [cellI]
    have h3 : (madeCells #[Value.int .i64 0] (n * 1)).toList.length = n := by rw [Array.length_toList, size_madeCells]; omega
    rw [List.getElem?_eq_none (by omega), List.getElem?_eq_none (by omega)]

theorem Try.infoI : (Try.prog.info? 3).map (fun i => (i.zero, i.size, i.bytes)) = some (some (.int .i64 0), 1, 8) := by kernel_rfl

/-- make([]int, n). -/
theorem make_ints (W : World) (n : Nat) (hn : n ≤ 2000000) : ∃ w2, (Instr.makeSlice 69 (.int .i64 (n : Int)) (.int .i64 (n : Int))).run Try.prog W = .ok (.slice (some ⟨W.heap.size, 0, none⟩) n n) w2 ∧ W.heap.size < w2.heap.size ∧ IntsW w2 W.heap.size (List.replicate n 0) ∧ W.grownBy w2 none := by
  obtain ⟨i0, hi, hz0, hz1, hz2⟩ := info_parts Try.infoI
  have hrun := run_make_full (P := Try.prog) W W.heap.size 69 3 i0 (.int .i64 0) 1 Try.underlying69 hi hz0 hz1 .i64 .i64 n (by rw [hz2]; omega) (by unfold maxLen; omega) (Nat.le_refl _)
  obtain ⟨w2, hr, ho, hg⟩ := hrun
  rw [madeInts n] at ho
  refine ⟨w2, hr, ?_⟩
  rcases ho.2 with ⟨hv, _⟩ | ⟨g, cap, cur, hv, hb, hcells, hcap, _⟩
  · cases hv
  · simp only [Value.slice.injEq, Option.some.injEq, Addr.mk.injEq, and_true] at hv
    obtain ⟨rfl, _⟩ := hv
    refine ⟨(Array.getElem?_eq_some_iff.1 hcells).1, ⟨fun i hi => ?_, fun o => ho.frozenAt o⟩, hg⟩
    rw [List.length_replicate] at hi
    rw [Nat.zero_add, ho.cellAt _ (by omega), cellI_at _ i (by simpa using hi)]

/-- Two lists of blocks are the same, as far as k. -/
def sameI (bs cs : List Int) (k : Nat) : Bool := (List.range k).all fun i => bth bs i == bth cs i

def sameIs (bs cs : List Int) : Bool := decide (bs.length = cs.length) && sameI bs cs bs.length

set_option maxHeartbeats 800000 in
theorem eqIntS_any (v1 v2 : Value) (bs cs : List Int) (w : World) (hx : Intv w v1 bs) (hy : Intv w v2 cs) :
    Calls Try.prog 38 #[v1, v2] w fun e w' => e = .returned (.bool (sameIs bs cs)) ∧ Drawn w w' := by
  obtain ⟨a1, n1, c1, rfl, hn1, hm1, hs1⟩ := hx
  obtain ⟨a2, n2, c2, rfl, hn2, hm2, hs2⟩ := hy
  by_cases he : n1 = n2
  · subst he
    have Hq : Hid (sameIs bs cs = sameI bs cs n1) := Lib.hid (by simp [sameIs, hn1, hn2])
    have Hs1 := Lib.hid hs1
    have Hs2 := Lib.hid hs2
    have Hn1 := Lib.hid hn1
    have Hn2 := Lib.hid hn2
    clear hs1 hs2 hn1 hn2
    go_enter Try.func38, Try.ntmps38
    go_wp2_with fail
    go_loopw [5] (fun i wr => ∃ k : Nat, k ≤ n1 ∧ i = .int .i64 (k : Int) ∧ sameI bs cs k = true ∧ Drawn w wr) (fun i _ => n1 - (intOf i).toNat)
    case atStart => exact ⟨0, by omega, rfl, rfl, Drawn.refl _⟩
    case round =>
      obtain ⟨k, hk, rfl, hs, hD⟩ := hrel
      have Hs := Lib.hid hs
      clear hs
      by_cases hlt : k < n1
      · obtain ⟨g, off, rfl, hi⟩ := ints_at Hs1.out k (by rw [Hn1.out]; exact hlt)
        obtain ⟨g2, off2, rfl, hi2⟩ := ints_at Hs2.out k (by rw [Hn2.out]; exact hlt)
        have hc := (hD.cell _).trans (hi k (by rw [Hn1.out]; exact hlt))
        have hc2 := (hD.cell _).trans (hi2 k (by rw [Hn2.out]; exact hlt))
        have Hyes := Lib.hid (fun hb : (bth bs k == bth cs k) = true => all_range_succ (fun i => bth bs i == bth cs i) k Hs.out hb)
        have Hno : Hid ((bth bs k == bth cs k) = false → sameI bs cs n1 = false) := Lib.hid (fun hb => all_range_no _ n1 k hlt hb)
        clear hi hi2
        obtain ⟨x, hx⟩ : ∃ x, bth bs k = x := ⟨_, rfl⟩
        obtain ⟨y, hy⟩ : ∃ y, bth cs k = y := ⟨_, rfl⟩
        rw [hx] at hc Hyes Hno
        rw [hy] at hc2 Hyes Hno
        clear hx hy
        cases hb : (x == y)
        · have HF := Lib.hid (Hno.out hb)
          have hb2 : (x != y) = true := by simp only [bne, hb]; rfl
          clear Hyes Hno
          go_wp2_with fail
          go_quiet (fail)
          go_wp2_with fail
          go_ret
          exact ⟨by rw [Hq.out, HF.out]; rfl, hD.more _⟩
        · have HT := Lib.hid (Hyes.out hb)
          have hb2 : (x != y) = false := by simp only [bne, hb]; rfl
          clear Hyes Hno
          go_wp2_with fail
          go_quiet (fail)
          go_wp2_with fail
          go_roundw
          case rel => exact ⟨k + 1, by omega, by go_num, HT.out, hD.more _⟩
          case measure => simp [intOf]; omega
      · obtain rfl : k = n1 := by omega
        go_wp2_with fail
        go_ret
        exact ⟨by rw [Hq.out, Hs.out]; rfl, hD⟩
  · have Hq : Hid (sameIs bs cs = false) := Lib.hid (by simp [sameIs, hn1, hn2, he])
    have hb : ((n1 : Int) != (n2 : Int)) = true := by simp; omega
    clear hs1 hs2 hn1 hn2
    go_enter Try.func38, Try.ntmps38
    go_wp2_with fail
    go_ret
    exact ⟨by rw [Hq.out]; rfl, Drawn.refl _⟩

end Go.Proofs.Ytaoaclmcmeaedaa
