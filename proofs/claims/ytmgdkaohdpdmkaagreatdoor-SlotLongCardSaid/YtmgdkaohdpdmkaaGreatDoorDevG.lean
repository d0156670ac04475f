import Derived.Test.YtmgdkaohdpdmkaaGreatDoorDevC
import Derived.Test.YtmgdkaohdpdmkaaGreatDoorBegA
namespace Go.Proofs.YtmgdkaohdpdmkaaGreatDoor
open Go.RowKit Go.Maps

theorem write_nil (i : Int) (b : Value) (w : World) : Calls Tryz.prog 17 #[.pointer none, .int .i64 i, b] w fun e w' => e = .returned (.int .i64 9) ∧ w' = w := by
  go_enter Tryz.func17, Tryz.ntmps17
  go_wp2_with (go_at_call 27; refine (down_nil _).mono ?_; rintro e w' ⟨rfl, hw⟩; obtain rfl := hw.symm)
  go_ret
  exact ⟨rfl, rfl⟩
theorem flush_nil (w : World) : Calls Tryz.prog 58 #[.pointer none] w fun e w' => e = .returned (.int .i64 9) ∧ w' = w := by
  go_enter Tryz.func58, Tryz.ntmps58
  go_wp2_with (go_at_call 27; refine (down_nil _).mono ?_; rintro e w' ⟨rfl, hw⟩; obtain rfl := hw.symm)
  go_ret
  exact ⟨rfl, rfl⟩
theorem fuse_nil (i : Int) (w : World) : Calls Tryz.prog 13 #[.pointer none, .int .i64 i] w fun e w' => e = .returned (.tuple #[]) ∧ w' = w := by
  go_enter Tryz.func13, Tryz.ntmps13
  go_wp2_with (go_at_call 27; refine (down_nil _).mono ?_; rintro e w' ⟨rfl, hw⟩; obtain rfl := hw.symm)
  first | go_end0 | refine bodyPost_ret (results_none rfl _ _ _) rfl ?_
  exact ⟨rfl, rfl⟩
theorem sectors_nil (w : World) : Calls Tryz.prog 34 #[.pointer none] w fun e w' => e = .returned (.int .i64 0) ∧ w' = w := by
  go_enter Tryz.func34, Tryz.ntmps34
  go_wp2
  go_ret
  exact ⟨rfl, rfl⟩
theorem crash_nil (v : Value) (w : World) : Calls Tryz.prog 15 #[.pointer none, v] w fun e w' => e = .returned (.pointer none) ∧ w' = w := by
  go_enter Tryz.func15, Tryz.ntmps15
  go_wp2
  go_ret
  exact ⟨rfl, rfl⟩
theorem sectors_any {w : World} {db nb n cap : Nat} (h0 : w.cell? ⟨db, 0, none⟩ = some (.slice (some ⟨nb, 0, none⟩) n cap)) : Calls Tryz.prog 34 #[.pointer (some ⟨db, 0, none⟩)] w fun e w' => e = .returned (.int .i64 n) ∧ w' = w := by
  go_enter Tryz.func34, Tryz.ntmps34
  go_wp2
  go_ret
  exact ⟨rfl, rfl⟩
theorem write_down {w : World} {db : Nat} (c3 : w.cell? ⟨db, 3, none⟩ = some (.bool true)) (i : Int) (b : Value) : Calls Tryz.prog 17 #[.pointer (some ⟨db, 0, none⟩), .int .i64 i, b] w fun e w' => e = .returned (.int .i64 9) ∧ w' = w := by
  go_enter Tryz.func17, Tryz.ntmps17
  go_wp2_with (go_at_call 27; refine (down_any _ _ _ c3).mono ?_; rintro e w' ⟨rfl, hw⟩; obtain rfl := hw.symm)
  go_ret
  exact ⟨rfl, rfl⟩
theorem write_range {w : World} {db nb n cap : Nat} (c0 : w.cell? ⟨db, 0, none⟩ = some (.slice (some ⟨nb, 0, none⟩) n cap)) (c3 : w.cell? ⟨db, 3, none⟩ = some (.bool false)) (i : Int) (hi : i < 0 ∨ n ≤ i) (b : Value) : Calls Tryz.prog 17 #[.pointer (some ⟨db, 0, none⟩), .int .i64 i, b] w fun e w' => e = .returned (.int .i64 2) ∧ w' = w := by
  go_enter Tryz.func17, Tryz.ntmps17
  go_wp2_with (first
    | (go_at_call 27; refine (down_any _ _ _ c3).mono ?_; rintro e w' ⟨rfl, hw⟩; obtain rfl := hw.symm)
    | (go_at_call 31; refine (has_no _ _ _ _ _ _ c0 hi).mono ?_; rintro e w' ⟨rfl, hw⟩; obtain rfl := hw.symm))
  go_ret
  exact ⟨rfl, rfl⟩
theorem write_form {w : World} {db nb n cap : Nat} (c0 : w.cell? ⟨db, 0, none⟩ = some (.slice (some ⟨nb, 0, none⟩) n cap)) (c3 : w.cell? ⟨db, 3, none⟩ = some (.bool false)) (i : Int) (h0 : 0 ≤ i) (hi : i < n) (a : Option Addr) (l : Nat) (hl : ((l : Int) == 64) = false) (c : Nat) : Calls Tryz.prog 17 #[.pointer (some ⟨db, 0, none⟩), .int .i64 i, .slice a l c] w fun e w' => e = .returned (.int .i64 1) ∧ w' = w := by
  go_enter Tryz.func17, Tryz.ntmps17
  go_wp2_with (first
    | (go_at_call 27; refine (down_any _ _ _ c3).mono ?_; rintro e w' ⟨rfl, hw⟩; obtain rfl := hw.symm)
    | (go_at_call 31; refine (has_yes _ _ _ _ _ _ c0 h0 hi).mono ?_; rintro e w' ⟨rfl, hw⟩; obtain rfl := hw.symm))
  go_ret
  exact ⟨rfl, rfl⟩
theorem flush_down {w : World} {db : Nat} (c3 : w.cell? ⟨db, 3, none⟩ = some (.bool true)) : Calls Tryz.prog 58 #[.pointer (some ⟨db, 0, none⟩)] w fun e w' => e = .returned (.int .i64 9) ∧ w' = w := by
  go_enter Tryz.func58, Tryz.ntmps58
  go_wp2_with (go_at_call 27; refine (down_any _ _ _ c3).mono ?_; rintro e w' ⟨rfl, hw⟩; obtain rfl := hw.symm)
  go_ret
  exact ⟨rfl, rfl⟩
theorem fuse_down {w : World} {db : Nat} (c3 : w.cell? ⟨db, 3, none⟩ = some (.bool true)) (i : Int) : Calls Tryz.prog 13 #[.pointer (some ⟨db, 0, none⟩), .int .i64 i] w fun e w' => e = .returned (.tuple #[]) ∧ w' = w := by
  go_enter Tryz.func13, Tryz.ntmps13
  go_wp2_with (go_at_call 27; refine (down_any _ _ _ c3).mono ?_; rintro e w' ⟨rfl, hw⟩; obtain rfl := hw.symm)
  first | go_end0 | refine bodyPost_ret (results_none rfl _ _ _) rfl ?_
  exact ⟨rfl, rfl⟩
end Go.Proofs.YtmgdkaohdpdmkaaGreatDoor

namespace Go.Proofs.YtmgdkaohdpdmkaaGreatDoor
open Go.RowKit Go.Maps

/-- A device whose map is made anew. -/
theorem DevAt.fresh {w : World} {db nb mb n cap : Nat} {B : List UInt8} {k : Nat} {D : DataW Unit} {left : Int} {down : Bool} (h : DevAt w db nb mb n cap B k D left down) :
    DevAt ((w.alloc (.map #[] 0)).setCell ⟨db, 1, none⟩ (.map (some w.heap.size))) db nb w.heap.size n cap B 0 (.map []) left down ∧
      Keeps (fun i => i = db) w ((w.alloc (.map #[] 0)).setCell ⟨db, 1, none⟩ (.map (some w.heap.size))) := by
  have hk0 : Keeps (fun i => i = db) w (w.alloc (.map #[] 0)) := (Keeps.refl (fun i => i = db) w).alloc (.map #[] 0)
  have hk : Keeps (fun i => i = db) w ((w.alloc (.map #[] 0)).setCell ⟨db, 1, none⟩ (.map (some w.heap.size))) := hk0.setCell (p := ⟨db, 1, none⟩) rfl _
  have hA := h.keeps ((Keeps.refl (fun _ => False) w).alloc (.map #[] 0)) (fun e => e) (fun e => e) (fun e => e)
  have hdl := h.dlt
  have hnl := h.nlt
  refine ⟨{ h with
    c0 := by rw [World.cell?_setCell_other _ _ _ _ (by simp)]; exact hA.c0
    c1 := World.cell?_setCell_same _ _ _ hA.c1
    c2 := by rw [World.cell?_setCell_other _ _ _ _ (by simp)]; exact hA.c2
    c3 := by rw [World.cell?_setCell_other _ _ _ _ (by simp)]; exact hA.c3
    f := fun o => by rw [World.frozen?_setCell]; exact hA.f o
    now := fun j v hv => (hk.cell (p := ⟨nb, 0 + j, none⟩) h.nlt (fun e => h.ne1 e.symm)).trans (h.now j v hv)
    thr := fun j hj => ⟨by rw [hk.cell (p := ⟨nb, 0 + j, none⟩) h.nlt (fun e => h.ne1 e.symm)]; exact (h.thr j hj).1, by rw [hk.frozen (p := ⟨nb, 0 + j, none⟩) h.nlt (fun e => h.ne1 e.symm)]; exact (h.thr j hj).2⟩
    was := ?_
    ne2 := by omega
    ne3 := by omega
    keys := by intro x hx; simp [intKeys] at hx }, hk⟩
  have hm : (w.alloc (.map #[] 0)).ownsMap Tryz.prog 3 (secR (H := Unit)) w.heap.size 0 (.map []) := World.ownsMap_made _ _ _ _
  exact hm.setCell (a := ⟨db, 1, none⟩) (by show w.heap.size ≠ db; omega) _

theorem flush_any {w : World} {db nb mb n cap : Nat} {B : List UInt8} {k : Nat} {D : DataW Unit} {left : Int} (h : DevAt w db nb mb n cap B k D left false) :
    Calls Tryz.prog 58 #[.pointer (some ⟨db, 0, none⟩)] w fun e w' => e = .returned (.int .i64 0) ∧ DevAt w' db nb w.heap.size n cap B 0 (.map []) (burnL left) (burnD left false) ∧ Keeps (fun i => i = db) w w' := by
  have hmm := @run_makeMap Tryz.prog
  have hA := h.keeps ((Keeps.refl (fun _ => False) w).alloc (.map #[] 0)) (fun e => e) (fun e => e) (fun e => e)
  have c1 := hA.c1
  have f1 := hA.f 1
  clear hA
  obtain ⟨h1, k1⟩ := h.fresh
  go_enter Tryz.func58, Tryz.ntmps58
  go_wp2_with (go_at_call 27; refine (down_any _ _ _ h.c3).mono ?_; rintro e w' ⟨rfl, hw⟩; obtain rfl := hw.symm)
  refine (burn_dev h1).mono ?_
  rintro e w3 ⟨rfl, h3, hk3⟩
  go_wp2_with fail
  go_ret
  exact ⟨rfl, h3, k1.trans hk3⟩

/-- A device whose fuse is laid. -/
theorem DevAt.fused {w : World} {db nb mb n cap : Nat} {B : List UInt8} {k : Nat} {D : DataW Unit} {left : Int} {down : Bool} (h : DevAt w db nb mb n cap B k D left down) (l : Int) (d : Bool) (l0 : 0 ≤ l) (l1 : l ≤ 9223372036854775807) :
    DevAt ((w.setCell ⟨db, 2, none⟩ (.int .i64 l)).setCell ⟨db, 3, none⟩ (.bool d)) db nb mb n cap B k D l d ∧ Keeps (fun i => i = db) w ((w.setCell ⟨db, 2, none⟩ (.int .i64 l)).setCell ⟨db, 3, none⟩ (.bool d)) := by
  have hk : Keeps (fun i => i = db) w ((w.setCell ⟨db, 2, none⟩ (.int .i64 l)).setCell ⟨db, 3, none⟩ (.bool d)) :=
    ((Keeps.refl (fun i => i = db) w).setCell (p := ⟨db, 2, none⟩) rfl _).setCell (p := ⟨db, 3, none⟩) rfl _
  refine ⟨{ h with
    c0 := by rw [World.cell?_setCell_other _ _ _ _ (by simp), World.cell?_setCell_other _ _ _ _ (by simp)]; exact h.c0
    c1 := by rw [World.cell?_setCell_other _ _ _ _ (by simp), World.cell?_setCell_other _ _ _ _ (by simp)]; exact h.c1
    c2 := by rw [World.cell?_setCell_other _ _ _ _ (by simp), World.cell?_setCell_same _ _ _ h.c2]
    c3 := by rw [World.cell?_setCell_same _ _ _ (by rw [World.cell?_setCell_other _ _ _ _ (by simp)]; exact h.c3)]
    f := fun o => by rw [World.frozen?_setCell, World.frozen?_setCell]; exact h.f o
    now := fun j v hv => (hk.cell (p := ⟨nb, 0 + j, none⟩) h.nlt (fun e => h.ne1 e.symm)).trans (h.now j v hv)
    thr := fun j hj => ⟨by rw [hk.cell (p := ⟨nb, 0 + j, none⟩) h.nlt (fun e => h.ne1 e.symm)]; exact (h.thr j hj).1, by rw [hk.frozen (p := ⟨nb, 0 + j, none⟩) h.nlt (fun e => h.ne1 e.symm)]; exact (h.thr j hj).2⟩
    was := (h.was.setCell (a := ⟨db, 2, none⟩) h.ne2 _).setCell (a := ⟨db, 3, none⟩) h.ne2 _
    l0 := l0
    l1 := l1 }, hk⟩

theorem fuse_any {w : World} {db nb mb n cap : Nat} {B : List UInt8} {k : Nat} {D : DataW Unit} {left : Int} (hdv : DevAt w db nb mb n cap B k D left false) (m : Int) (hm : m ≤ 9223372036854775807) :
    Calls Tryz.prog 13 #[.pointer (some ⟨db, 0, none⟩), .int .i64 m] w fun e w' => e = .returned (.tuple #[]) ∧ DevAt w' db nb mb n cap B k D (max m 0) (decide (m ≤ 0)) ∧ Keeps (fun i => i = db) w w' := by
  have c2 := hdv.c2
  have c3 := hdv.c3
  have f2 := hdv.f 2
  have f3 := hdv.f 3
  go_enter Tryz.func13, Tryz.ntmps13
  go_wp2_with (go_at_call 27; refine (down_any _ _ _ c3).mono ?_; rintro e w' ⟨rfl, hw⟩; obtain rfl := hw.symm)
  all_goals go_end0
  · rw [show max m 0 = 0 from by omega]
    exact ⟨rfl, hdv.fused 0 _ (by omega) (by omega)⟩
  · rw [show max m 0 = m from by omega]
    exact ⟨rfl, hdv.fused m _ (by omega) hm⟩
end Go.Proofs.YtmgdkaohdpdmkaaGreatDoor

namespace Go.Proofs.YtmgdkaohdpdmkaaGreatDoor
open Go.RowKit Go.Maps

/-- The first j of 64 bytes are b. -/
def fillA (b : UInt8) (j : Nat) : Array Value := (bytesV (List.replicate j b ++ List.replicate (64 - j) 0)).toArray
theorem fillA_size (b : UInt8) (j : Nat) (h : j ≤ 64) : (fillA b j).size = 64 := by simp [fillA, bytesV]; omega
theorem fillA_zero (b : UInt8) : fillA b 0 = zb := by simp [fillA, zb]
theorem fillA_set (b : UInt8) (j : Nat) (h : j < 64) : (fillA b j).setIfInBounds j (.int .u8 b.toNat) = fillA b (j + 1) := by
  unfold fillA
  rw [List.setIfInBounds_toArray]
  congr 1
  apply List.ext_getElem?
  intro k
  simp only [bytesV, List.map_append, List.map_replicate, List.getElem?_set, List.getElem?_append, List.getElem?_replicate, List.length_append, List.length_replicate]
  by_cases h1 : j = k
  · subst h1
    rw [if_pos rfl, if_pos (by omega), if_pos (by omega), if_pos (by omega)]; rfl
  · rw [if_neg h1]
    by_cases h2 : k < j
    · rw [if_pos h2, if_pos h2, if_pos (by omega), if_pos (by omega)]
    · rw [if_neg h2, if_neg (show ¬ k < j + 1 by omega)]
      by_cases h3 : k < 64
      · rw [if_pos (by omega), if_pos (by omega)]
      · rw [if_neg (by omega), if_neg (by omega)]
theorem fillA_full (b : UInt8) : fillA b 64 = (bytesV (List.replicate 64 b)).toArray := by simp [fillA]

/-- Write, whether the sector is loose or not. -/
theorem write_ok {w : World} {db nb mb n cap : Nat} {B : List UInt8} {k : Nat} {D : DataW Unit} {left : Int} (h : DevAt w db nb mb n cap B k D left false) (i : Nat) (hi : i < n) (s : List UInt8) (hs : s.length = 64)
    (sb so sc : Nat) (hsrc : w.rangeAt sb so (bytesV s)) (hsm : sb ≠ mb) (hkm : k < maxLen) :
    Calls Tryz.prog 17 #[.pointer (some ⟨db, 0, none⟩), .int .i64 i, .slice (some ⟨sb, so, none⟩) 64 sc] w fun e w' => ∃ k' D', e = .returned (.int .i64 0) ∧ k' ≤ k + 1 ∧
      DevAt w' db nb mb n cap (put B i s) k' D' (burnL left) (burnD left false) ∧ Keeps (fun j => j = db ∨ j = nb ∨ j = mb) w w' := by
  cases hh : Maps.has D (.int .i64 i)
  · exact (write_new h i hi s hs sb so sc hsrc hsm hkm hh).mono (fun e w' ⟨h1, h2, h3⟩ => ⟨_, _, h1, Nat.le_refl _, h2, h3⟩)
  · exact (write_loose h i hi s hs sb so sc hsrc hh).mono (fun e w' ⟨h1, h2, h3⟩ => ⟨_, _, h1, Nat.le_succ _, h2, h3⟩)
theorem rem_any (x m : Int) (hm : 0 < m) : -m < x.tmod m ∧ x.tmod m < m := by
  refine ⟨?_, Int.tmod_lt_of_pos x hm⟩
  rcases Int.le_total 0 x with h | h
  · have := Int.tmod_nonneg m h; omega
  · have h2 : 0 ≤ (-x).tmod m := Int.tmod_nonneg m (by omega)
    have h3 := Int.tmod_lt_of_pos (-x) hm
    rw [Int.neg_tmod] at h2 h3
    omega
end Go.Proofs.YtmgdkaohdpdmkaaGreatDoor
