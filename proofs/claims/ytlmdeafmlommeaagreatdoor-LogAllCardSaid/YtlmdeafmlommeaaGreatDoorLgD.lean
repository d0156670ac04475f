import Derived.Test.YtlmdeafmlommeaaGreatDoorLgC
namespace Go.Proofs.YtlmdeafmlommeaaGreatDoor
open Go.RowKit Go.Maps

variable {base lo n : Nat} {w wr w' : World} {db nb mb cap k lb sb : Nat} {B : List UInt8} {left : Int} {down : Bool} {v : Value} {a : Nat} {RL RV : List (List UInt8)} {x y : Int}
/-- A list anew. -/
theorem CutS.fresh (h : CutS base lo n w wr db nb mb cap k lb sb B left down v a RL RV x y) : CutS base lo n w wr db nb mb cap k lb sb B left down (.slice none 0 0) a RL [] x y := { h with rcs := RecsAt.nil _ _ }
/-- A Reset that nothing cuts off. -/
theorem CutS.reset (h : CutS base lo n w wr db nb mb cap k lb sb B 0 false v a RL RV x y) (hk : k ≤ 1000) (x2 y2 : Int) (hx : AllFit [x2, y2]) :
    Calls Tryz.prog 19 #[.pointer (some ⟨lb, 0, none⟩), .int .i64 x2, .int .i64 y2] wr fun e w' => e = .returned (.int .i64 0) ∧ ∃ mb' k' B' a', k' ≤ k + 1 ∧ CutS base lo n w w' db nb mb' cap k' lb sb B' 0 false v a' [] RV x2 y2 ∧ wr.heap.size ≤ w'.heap.size := by
  have h1 := h.sz
  have h3 := h.four
  refine (reset_seat h.seat h.log x2 y2 hx (by omega) hk).mono ?_
  rintro e w5 ⟨mb5, k5, B5, a5, rfl, hS5, hk5, hlog5, hK5⟩
  have hs5 := hK5.size
  exact ⟨rfl, mb5, k5, B5, a5, hk5, ⟨hS5.d, hS5.l, hS5.s, hS5.ne, hS5.nl, hS5.low, h3, hlog5, h.rcs.keepM hK5 h.d.noRow (fun i h1 h2 => by unfold five at h2; omega), h.bel.trans (five_below h.seat hK5 (by omega)), by omega⟩, hs5⟩
/-- A crash where nothing is loose. -/
theorem CutS.crash (h : CutS base lo n w wr db nb mb cap k lb sb B 0 false v a RL RV x y) (hk : k ≤ 1000) {ka : Option Addr} {kl : Nat} (kc : Nat) {K : List Bool} (hK : KeepB w base ka kl K) :
    Calls Tryz.prog 21 #[.pointer (some ⟨db, 0, none⟩), .slice ka kl kc] wr fun e w' => ∃ db' nb' mb' cap', e = .returned (.pointer (some ⟨db', 0, none⟩)) ∧ DevAt w' db' nb' mb' n cap' B 0 (.map []) 0 false ∧ CutS base lo n w w' db nb mb cap k lb sb B 0 false v a RL RV x y ∧ wr.heap.size ≤ db' ∧ wr.heap.size ≤ nb' ∧ wr.heap.size ≤ mb' ∧ wr.heap.size ≤ w'.heap.size := by
  refine (crash_l h.d (by omega) kc (hK.below h.bel)).mono ?_
  rintro e w7 ⟨L, db7, nb7, mb7, cap7, hLp, _, rfl, z1, z2, z3, hd7, hb7⟩
  rw [crash_nothing hLp] at hd7
  exact ⟨db7, nb7, mb7, cap7, rfl, hd7, h.keep hb7, z1, z2, z3, hb7.size⟩
/-- .. and the log is opened. -/
theorem CutS.opens (h : CutS base lo n w wr db nb mb cap k lb sb B left down v a RL RV x y) {db' nb' mb' cap' k2 : Nat} {B2 : List UInt8} {D2 : DataW Unit} {left2 : Int} {down2 : Bool} {a2 : Nat} {R2 : List (List UInt8)} {x2 y2 : Int} (hd : DevAt wr db' nb' mb' n cap' B2 k2 D2 left2 down2) (hl : LogOn n B2 a2 R2 x2 y2) :
    Calls Tryz.prog 22 #[.pointer (some ⟨db', 0, none⟩)] wr fun e w' => ∃ lb' sb' rp rc U, e = .returned (.tuple #[.pointer (some ⟨lb', 0, none⟩), .slice rp R2.length rc, .int .i64 0]) ∧ wr.heap.size ≤ lb' ∧ wr.heap.size ≤ sb' ∧ lb' ≠ sb' ∧ LgAt w' lb' db' n sb' false 0 0 0 0 ∧ SlAt w' sb' db' false ∧ RecsU w' U (.slice rp R2.length rc) R2 ∧ (∀ i, U i → wr.heap.size ≤ i ∧ i < w'.heap.size ∧ i ≠ lb' ∧ i ≠ sb') ∧ DevAt w' db' nb' mb' n cap' B2 k2 D2 left2 down2 ∧ CutS base lo n w w' db nb mb cap k lb sb B left down v a RL RV x y ∧ wr.heap.size ≤ w'.heap.size := by
  refine (wopen_at hd hl).mono ?_
  rintro e w8 ⟨lb8, sb8, rv, U, rfl, y1, y2, y3, hL8, hS8, hR8, hU8, hb8⟩
  obtain ⟨rp, rc, rfl⟩ := hR8.shape
  have hK8 := Keeps.of_below (S := fun _ => False) hb8
  exact ⟨lb8, sb8, rp, rc, U, rfl, y1, y2, y3, hL8, hS8, hR8, hU8, hd.keeps hK8 (fun e => e) (fun e => e) (fun e => e), h.keep hb8, hb8.size⟩
end Go.Proofs.YtlmdeafmlommeaaGreatDoor
