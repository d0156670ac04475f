import Derived.Test.YteehcffmccgciaaGreatDoorVcD
import Derived.Test.YteehcffmccgciaaGreatDoorBgE
import Derived.Test.YteehcffmccgciaaGreatDoorQtH
namespace Go.Proofs.YteehcffmccgciaaGreatDoor
open Go.RowKit Go.Maps

theorem mayB_set {d k : Nat} (hd : 1 ≤ d ∧ d ≤ 8) (hk : k < d) (v : Int) : mayB ((List.replicate d 0).set k v) d = mayX v := by
  by_cases h : -1048576 ≤ v ∧ v ≤ 1048576
  · rw [mayB_all]
    · exact (decide_eq_true h).symm
    · simp; omega
    · intro j hj
      by_cases e : j = k
      · subst e
        have : ((List.replicate d (0:Int)).set j v).getD j 0 = v := by simp [List.getD, hk]
        rw [this]; exact h
      · have : ((List.replicate d (0:Int)).set k v).getD j 0 = 0 := by
          simp only [List.getD]
          rw [List.getElem?_set_ne (by omega)]
          simp only [List.length_set, List.length_replicate] at hj
          simp [hj]
        rw [this]; omega
  · rw [mayB_bad (j := k) (by simp; exact hk)]
    · exact (decide_eq_false h).symm
    · have : ((List.replicate d (0:Int)).set k v).getD k 0 = v := by simp [List.getD, hk]
      rw [this]; exact h
theorem mayB_zero {d : Nat} (hd : 1 ≤ d ∧ d ≤ 8) : mayB (List.replicate d 0) d = true := by
  refine mayB_all (by simp; omega) (fun j hj => ?_)
  simp only [List.length_replicate] at hj
  have : (List.replicate d (0:Int)).getD j 0 = 0 := by simp [List.getD, hj]
  rw [this]; omega
/-- The two signs, and what is kept. -/
structure EdgeQ (w wr : World) (bs : Nat) : Prop where
  c0 : wr.cell? ⟨bs, 0, none⟩ = some (.int .i32 (-1))
  c1 : wr.cell? ⟨bs, 1, none⟩ = some (.int .i32 1)
  u : Below w.heap.size w wr
  l : bs < wr.heap.size
theorem EdgeQ.below {w wr w' : World} {bs : Nat} (h : EdgeQ w wr bs) (hb : Below wr.heap.size wr w') : EdgeQ w w' bs :=
  ⟨(hb.cell (p := ⟨bs, 0, none⟩) h.l).trans h.c0, (hb.cell (p := ⟨bs, 1, none⟩) h.l).trans h.c1, h.u.trans (hb.mono h.u.size), Nat.lt_of_lt_of_le h.l hb.size⟩
set_option maxRecDepth 100000 in
set_option maxHeartbeats 4000000 in
theorem vectEdges_true (d0 k0 o0 : Int) (w : World) (hg : w.cell? ⟨0, 0, none⟩ = some errType) :
    Calls Tryz.prog 7 #[.int .i64 d0, .int .i64 k0, .int .i32 o0] w fun e w' => e = .returned (.bool true) ∧ Below w.heap.size w w' := by
  have hr := rem_any o0 3 (by omega)
  go_enter Tryz.func7, Tryz.ntmps7
  go_wp2_with fail
  refine (begun7_true _ hg).mono ?_
  rintro e w1 ⟨rfl, hb1⟩
  have HB1 : Hid (Below w.heap.size w w1) := hb1
  clear hb1 hg
  go_wp2_with fail
  refine (dim_at d0 w1).mono ?_
  rintro e w2 ⟨d, rfl, hd1, hd8, rfl⟩
  have hk := rem_any k0 d (by omega)
  have hk2 : 0 ≤ (k0.tmod d + d).tmod d ∧ (k0.tmod d + d).tmod d < d := ⟨Int.tmod_nonneg _ (by omega), Int.tmod_lt_of_pos _ (by omega)⟩
  go_wp2_with fail
  obtain ⟨k, hkk, hkd⟩ : ∃ k : Nat, (k0.tmod d + d) % d = k ∧ k < d := by
    have h1 := Int.emod_nonneg (k0.tmod d + d) (b := (d : Int)) (by omega)
    have h2 := Int.emod_lt_of_pos (k0.tmod d + d) (b := (d : Int)) (by omega)
    exact ⟨((k0.tmod d + d) % d).toNat, by omega, by omega⟩
  rw [hkk]
  clear hkk hk2 hk
  generalize o0.tmod 3 = o at *
  have hmk := fun w => mkVec d (by omega) w
  have HI0 : Hid (EdgeQ w (w2.alloc (.cells #[.int .i32 (-1), .int .i32 1] 21)) w2.heap.size) :=
    ⟨by rw [cell_of_row _ _ 0 _ 21 (0, 0) (heap_alloc_last w2 _)]; rfl, by rw [cell_of_row _ _ 1 _ 21 (0, 0) (heap_alloc_last w2 _)]; rfl, HB1.out.alloc HB1.out.size _, by simp⟩
  generalize w2.alloc (.cells #[.int .i32 (-1), .int .i32 1] 21) = w3 at *
  generalize w2.heap.size = bs at *
  go_loopw [28] (fun s28 wr => ∃ t : Nat, t ≤ 2 ∧ s28 = .int .i64 t ∧ Hid (EdgeQ w wr bs)) (fun s28 _ => 2 - (RowKit.intOf s28).toNat)
  case atStart => exact ⟨0, by omega, rfl, HI0⟩
  case round =>
    clear HI0
    obtain ⟨t, ht, rfl, HI⟩ := hrel
    by_cases hlt : t < 2
    · have hR := new_vec d (by omega) wr
      have hbB : Below wr.heap.size wr (wr.alloc (.cells (vrow d) 21)) := (Below.refl _ wr).alloc (Nat.le_refl _) _
      have hmk1 := mkVec d (by omega) wr
      clear hmk
      generalize wr.alloc (.cells (vrow d) 21) = wB at *
      have HR : Hid (VecR wB wr.heap.size (.slice (some ⟨wr.heap.size, 0, none⟩) d d) (List.replicate d 0)) := hR
      have f0 := hR.soft k
      have f1 := hR.cell k (by simp; exact hkd)
      rw [show (List.replicate d (0:Int)).getD k 0 = 0 by simp [List.getD, hkd]] at f1
      have q0 : wr.cell? ⟨bs, t, none⟩ = some (.int .i32 (if t = 0 then -1 else 1)) := by
        rcases t with _ | _ | t
        · exact HI.out.c0
        · exact HI.out.c1
        · omega
      clear hR
      by_cases h0 : t = 0
      · rw [if_pos h0] at q0
        subst h0
        have HN : Hid (VecR (wB.setCell ⟨wr.heap.size, k, none⟩ (.int .i32 (-1048576 + o))) wr.heap.size (.slice (some ⟨wr.heap.size, 0, none⟩) d d) ((List.replicate d 0).set k (-1048576 + o))) := HR.out.set k _
        have hbN : Below wr.heap.size wr (wB.setCell ⟨wr.heap.size, k, none⟩ (.int .i32 (-1048576 + o))) := (Keeps.below (S := fun i => i = wr.heap.size) (Keeps.setCell (p := ⟨wr.heap.size, k, none⟩) (Keeps.of_below (S := fun i => i = wr.heap.size) hbB) rfl _) (Nat.le_refl _) (fun i e => by omega))
        have HM : Hid (Calls Tryz.prog 23 #[.slice (some ⟨wr.heap.size, 0, none⟩) d d, .int .i64 d] (wB.setCell ⟨wr.heap.size, k, none⟩ (.int .i32 (-1048576 + o))) fun e w' => e = .returned (.bool (decide (-1 * o ≤ 0))) ∧ Hid (EdgeQ w w' bs)) := by
          have hA := HN.out.toAt (fun x hx => by
            rcases List.mem_or_eq_of_mem_set hx with h | h
            · have := List.eq_of_mem_replicate h; omega
            · omega)
          obtain ⟨p, c, e, hA, _⟩ := hA
          injection e with e1 e2 e3
          subst e1
          rw [List.length_set, List.length_replicate] at hA
          rw [← e3] at hA
          refine (may_at hA d).mono ?_
          rintro e w' ⟨rfl, rfl⟩
          refine ⟨?_, HI.out.below hbN⟩
          rw [mayB_set ⟨hd1, hd8⟩ hkd]
          have : mayX (-1048576 + o) = decide (-1 * o ≤ 0) := by
            unfold mayX
            rw [decide_eq_decide]
            omega
          rw [this]
        clear HN hbN HI HR hbB
        go_wp2_with fail
        refine HM.out.mono ?_
        rintro e w5 ⟨rfl, HQ⟩
        clear HM q0 f0 f1
        go_wp2_with fail
        exact ⟨⟨1, by omega, rfl, HQ⟩, by simp [RowKit.intOf]⟩
      · rw [if_neg h0] at q0
        obtain rfl : t = 1 := by omega
        have HN : Hid (VecR (wB.setCell ⟨wr.heap.size, k, none⟩ (.int .i32 (1048576 + o))) wr.heap.size (.slice (some ⟨wr.heap.size, 0, none⟩) d d) ((List.replicate d 0).set k (1048576 + o))) := HR.out.set k _
        have hbN : Below wr.heap.size wr (wB.setCell ⟨wr.heap.size, k, none⟩ (.int .i32 (1048576 + o))) := (Keeps.below (S := fun i => i = wr.heap.size) (Keeps.setCell (p := ⟨wr.heap.size, k, none⟩) (Keeps.of_below (S := fun i => i = wr.heap.size) hbB) rfl _) (Nat.le_refl _) (fun i e => by omega))
        have HM : Hid (Calls Tryz.prog 23 #[.slice (some ⟨wr.heap.size, 0, none⟩) d d, .int .i64 d] (wB.setCell ⟨wr.heap.size, k, none⟩ (.int .i32 (1048576 + o))) fun e w' => e = .returned (.bool (decide (1 * o ≤ 0))) ∧ Hid (EdgeQ w w' bs)) := by
          have hA := HN.out.toAt (fun x hx => by
            rcases List.mem_or_eq_of_mem_set hx with h | h
            · have := List.eq_of_mem_replicate h; omega
            · omega)
          obtain ⟨p, c, e, hA, _⟩ := hA
          injection e with e1 e2 e3
          subst e1
          rw [List.length_set, List.length_replicate] at hA
          rw [← e3] at hA
          refine (may_at hA d).mono ?_
          rintro e w' ⟨rfl, rfl⟩
          refine ⟨?_, HI.out.below hbN⟩
          rw [mayB_set ⟨hd1, hd8⟩ hkd]
          have : mayX (1048576 + o) = decide (1 * o ≤ 0) := by
            unfold mayX
            rw [decide_eq_decide]
            omega
          rw [this]
        clear HN hbN HI HR hbB
        go_wp2_with fail
        refine HM.out.mono ?_
        rintro e w5 ⟨rfl, HQ⟩
        clear HM q0 f0 f1
        go_wp2_with fail
        exact ⟨⟨2, by omega, rfl, HQ⟩, by simp [RowKit.intOf]⟩
    · obtain rfl : t = 2 := by omega
      have hR := new_vec d (by omega) wr
      have hbB : Below wr.heap.size wr (wr.alloc (.cells (vrow d) 21)) := (Below.refl _ wr).alloc (Nat.le_refl _) _
      have hmk1 := mkVec d (by omega) wr
      have HU : Hid (Below w.heap.size w (wr.alloc (.cells (vrow d) 21))) := HI.out.u.trans (hbB.mono HI.out.u.size)
      have hA : VecAt (wr.alloc (.cells (vrow d) 21)) (some ⟨wr.heap.size, 0, none⟩) d d (List.replicate d 0) := by
        obtain ⟨p, c, e, hA, _⟩ := hR.toAt (fun x hx => by have := List.eq_of_mem_replicate hx; omega)
        injection e with e1 e2 e3
        subst e1
        rw [List.length_replicate] at hA
        rw [← e3] at hA
        exact hA
      clear hmk hR hbB HI
      generalize wr.alloc (.cells (vrow d) 21) = wB at *
      have M1 : Hid (Calls Tryz.prog 23 #[.slice (some ⟨wr.heap.size, 0, none⟩) d d, .int .i64 d] wB fun e w' => e = .returned (.bool true) ∧ w' = wB) := by
        have := may_at hA d
        rw [mayB_zero ⟨hd1, hd8⟩] at this
        exact this
      have M2 : Hid (Calls Tryz.prog 23 #[.slice (some ⟨wr.heap.size, 0, none⟩) d d, .int .i64 ((d : Int) + 1)] wB fun e w' => e = .returned (.bool false) ∧ w' = wB) := by
        have := may_at hA ((d : Int) + 1)
        rw [mayB_dim (by rw [List.length_replicate]; omega)] at this
        exact this
      have M3 : Hid (Calls Tryz.prog 23 #[.slice (some ⟨wr.heap.size, 0, none⟩) d d, .int .i64 ((d : Int) - 1)] wB fun e w' => e = .returned (.bool false) ∧ w' = wB) := by
        have := may_at hA ((d : Int) - 1)
        rw [mayB_dim (by rw [List.length_replicate]; omega)] at this
        exact this
      have M4 : Hid (Calls Tryz.prog 23 #[.slice (some ⟨wr.heap.size, 0, none⟩) (d - 1) d, .int .i64 d] wB fun e w' => e = .returned (.bool false) ∧ w' = wB) := by
        have := may_at (hA.head (d - 1) (by omega)) d
        rw [mayB_dim (by rw [List.length_take, List.length_replicate]; omega)] at this
        exact this
      have hh : ∀ W, (Instr.sliceAt 42 (.slice (some ⟨wr.heap.size, 0, none⟩) d d) none (some (.int .i64 ((d : Int) - 1))) none).run Tryz.prog W = .ok (.slice (some ⟨wr.heap.size, 0, none⟩) (d - 1) d) W := by
        intro W
        have := headVec (some ⟨wr.heap.size, 0, none⟩) d d (d - 1) (by omega) W
        rw [show ((d - 1 : Nat) : Int) = (d : Int) - 1 by omega] at this
        exact this
      clear hA
      go_wp2_with fail
      refine M1.out.mono ?_
      rintro e w5 ⟨rfl, rfl⟩
      go_wp2_with fail
      refine M2.out.mono ?_
      rintro e w6 ⟨rfl, rfl⟩
      go_wp2_with fail
      refine M3.out.mono ?_
      rintro e w7 ⟨rfl, rfl⟩
      go_wp2_with fail
      refine M4.out.mono ?_
      rintro e w8 ⟨rfl, rfl⟩
      go_wp2_with fail
      go_ret
      exact ⟨rfl, HU.out⟩
end Go.Proofs.YteehcffmccgciaaGreatDoor
