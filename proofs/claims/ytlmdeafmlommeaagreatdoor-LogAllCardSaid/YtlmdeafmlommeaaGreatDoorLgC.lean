import Derived.Test.YtlmdeafmlommeaaGreatDoorLgB
namespace Go.Proofs.YtlmdeafmlommeaaGreatDoor
open Go.RowKit Go.Maps

/-- A device with its log, a list of records besides (in blocks of their own from lo on). -/
structure CutS (base lo n : Nat) (w wr : World) (db nb mb cap k lb sb : Nat) (B : List UInt8) (left : Int) (down : Bool) (v : Value) (a : Nat) (RL RV : List (List UInt8)) (x y : Int) : Prop where
  d : DevAt wr db nb mb n cap B k (.map []) left down
  l : LgAt wr lb db n sb false 0 0 0 0
  s : SlAt wr sb db false
  ne : sb ≠ db ∧ sb ≠ nb ∧ sb ≠ mb
  nl : lb ≠ db ∧ lb ≠ nb ∧ lb ≠ mb ∧ lb ≠ sb
  low : base ≤ db ∧ base ≤ nb ∧ base ≤ mb ∧ base ≤ sb ∧ base ≤ lb
  four : db < lo ∧ nb < lo ∧ sb < lo ∧ lb < lo
  log : LogOn n B a RL x y
  rcs : RecsAt wr lo v RV
  bel : Below base w wr
  sz : base ≤ lo ∧ lo ≤ wr.heap.size
variable {base lo n : Nat} {w wr w' : World} {db nb mb cap k lb sb : Nat} {B : List UInt8} {left : Int} {down : Bool} {v : Value} {a : Nat} {RL RV : List (List UInt8)} {x y : Int}
theorem CutS.start (h : Seat base wr db nb mb n cap k lb sb B) (hl : LogOn n B a RL x y) (hb : Below base w wr) (h0 : base ≤ wr.heap.size) : CutS base wr.heap.size n w wr db nb mb cap k lb sb B 0 false (.slice none 0 0) a RL [] x y :=
  ⟨h.d, h.l, h.s, h.ne, h.nl, h.low, ⟨h.d.dlt, h.d.nlt, h.s.lt, h.l.lt⟩, hl, RecsAt.nil _ _, hb, h0, Nat.le_refl _⟩
theorem CutS.seat (h : CutS base lo n w wr db nb mb cap k lb sb B 0 false v a RL RV x y) : Seat base wr db nb mb n cap k lb sb B := ⟨h.d, h.l, h.s, h.ne, h.nl, h.low⟩
theorem CutS.keep (h : CutS base lo n w wr db nb mb cap k lb sb B left down v a RL RV x y) (hb : Below wr.heap.size wr w') : CutS base lo n w w' db nb mb cap k lb sb B left down v a RL RV x y := by
  have hK := Keeps.of_below (S := fun _ => False) hb
  have h1 := h.sz
  have h2 := hb.size
  exact { h with
    d := h.d.keeps hK (fun e => e) (fun e => e) (fun e => e)
    l := h.l.keeps hK (fun e => e)
    s := h.s.keeps hK (fun e => e)
    rcs := h.rcs.below hb
    bel := h.bel.trans (hb.mono (by omega))
    sz := by omega }
/-- The list is another one from here on. -/
theorem CutS.list (h : CutS base lo n w wr db nb mb cap k lb sb B left down v a RL RV x y) {v1 : Value} {RV1 : List (List UInt8)} (hr : RecsAt w' lo v1 RV1) (hg : wr.grownBy w' v.ownBlock) : CutS base lo n w w' db nb mb cap k lb sb B left down v1 a RL RV1 x y := by
  have hk := (h.rcs.grownKeeps hg).1
  have h1 := h.sz
  have h2 := hk.size
  have h3 := h.four
  exact { h with
    d := h.d.grownR h.rcs hg ⟨h3.1, h3.2.1⟩
    l := h.l.keeps hk (by omega)
    s := h.s.keeps hk (by omega)
    rcs := hr
    bel := h.bel.trans (hk.below (by omega) (fun i e => by omega))
    sz := by omega }
theorem CutS.fuse (h : CutS base lo n w wr db nb mb cap k lb sb B 0 false v a RL RV x y) (m : Int) (hm : m ≤ 9223372036854775807) :
    Calls Tryz.prog 20 #[.pointer (some ⟨db, 0, none⟩), .int .i64 m] wr fun e w' => e = .returned (.tuple #[]) ∧ CutS base lo n w w' db nb mb cap k lb sb B (max m 0) (decide (m ≤ 0)) v a RL RV x y := by
  have h1 := h.sz
  have h3 := h.four
  have h4 := h.low
  have h5 := h.ne
  have h6 := h.nl
  refine (fuse_any h.d m hm).mono ?_
  rintro e w4 ⟨rfl, hd4, hk4⟩
  have hs4 := hk4.size
  exact ⟨rfl, { h with
    d := hd4
    l := h.l.keeps hk4 (by omega)
    s := h.s.keeps hk4 (by omega)
    rcs := h.rcs.keep hk4 (fun i h1 h2 => by omega)
    bel := h.bel.trans (hk4.below (by omega) (fun i e => by omega))
    sz := by omega }⟩
/-- One record is appended, nothing cuts it off. -/
theorem CutS.append (h : CutS base lo n w wr db nb mb cap k lb sb B 0 false v a RL RV x y) (hk : k ≤ 1000) {g c m : Nat} {s : List UInt8} (hB : BlkAt wr g s) (hm : s.length = m) (hm1 : 1 ≤ m) (hm2 : m ≤ 1000) (hmc : m ≤ c) (hg : lo ≤ g) (hz : (encR RL).length + (m + 2) ≤ ringN n) :
    Calls Tryz.prog 18 #[.pointer (some ⟨lb, 0, none⟩), .slice (some ⟨g, 0, none⟩) m c] wr fun e w' => e = .returned (.int .i64 0) ∧ ∃ mb' k' B', k' ≤ 1 ∧ CutS base lo n w w' db nb mb' cap k' lb sb B' 0 false v a (RL ++ [s]) RV x y ∧ RecV w' lo (.slice (some ⟨g, 0, none⟩) m c) s := by
  have h1 := h.sz
  have h3 := h.four
  refine (append_seat h.seat h.log g 0 c s m hm hm1 hm2 hz hB.range (by omega) hk).mono ?_
  rintro e w5 ⟨mb5, k5, B5, rfl, hS5, hk5, hlog5, hK5⟩
  have hs5 := hK5.size
  have hv : RecV wr lo (.slice (some ⟨g, 0, none⟩) m c) s := ⟨g, c, by rw [hm], by omega, hg, hB⟩
  exact ⟨rfl, mb5, k5, B5, hk5, ⟨hS5.d, hS5.l, hS5.s, hS5.ne, hS5.nl, hS5.low, h3, hlog5, h.rcs.keepM hK5 h.d.noRow (fun i h1 h2 => by unfold five at h2; omega), h.bel.trans (five_below h.seat hK5 (by omega)), by omega⟩, hv.keepM hK5 h.d.noRow (fun i h1 h2 => by unfold five at h2; omega)⟩
/-- The one-element row of an append. -/
theorem CutS.boxed (h : CutS base lo n w wr db nb mb cap k lb sb B 0 false v a RL RV x y) {u : Value} {r : List UInt8} (hv : RecV wr lo u r) : CutS base lo n w (wr.alloc (.cells #[u] 34)) db nb mb cap k lb sb B 0 false v a RL RV x y ∧ RecV (wr.alloc (.cells #[u] 34)) lo u r ∧ (wr.alloc (.cells #[u] 34)).cell? ⟨wr.heap.size, 0, none⟩ = some u ∧ lo ≤ (wr.alloc (.cells #[u] 34)).heap.size := by
  have hbA : Below wr.heap.size wr (wr.alloc (.cells #[u] 34)) := (Below.refl _ _).alloc (Nat.le_refl _) _
  have h1 := h.sz
  have h2 := hbA.size
  exact ⟨h.keep hbA, hv.keep (Keeps.of_below (S := fun _ => False) hbA) (fun _ _ e => e), by rw [cell_of_row _ _ 0 _ 34 (0, 0) (heap_alloc_last wr _)]; rfl, by omega⟩
end Go.Proofs.YtlmdeafmlommeaaGreatDoor
