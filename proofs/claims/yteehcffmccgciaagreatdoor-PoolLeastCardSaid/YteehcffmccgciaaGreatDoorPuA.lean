import Derived.Test.YteehcffmccgciaaGreatDoorPlA
import Derived.Test.YteehcffmccgciaaGreatDoorPlL
import Derived.Test.YteehcffmccgciaaGreatDoorBgE
namespace Go.Proofs.YteehcffmccgciaaGreatDoor
open Go.RowKit Go.Maps

set_option maxRecDepth 100000 in
set_option maxHeartbeats 4000000 in
theorem poolLeast_true (a0 b0 c0 : Int) (w : World) (hg : w.cell? ⟨0, 0, none⟩ = some errType) :
    Calls Tryz.prog 6 #[.int .i64 a0, .int .i64 b0, .int .i64 c0] w fun e w' => e = .returned (.bool true) ∧ Below w.heap.size w w' := by
  have hr0 := rem_any a0 20 (by omega)
  have hr1 := rem_any b0 20 (by omega)
  have hr2 := rem_any c0 20 (by omega)
  obtain ⟨a, ha, ha1⟩ : ∃ a : Nat, a0.tmod 20 % 20 = (a : Int) ∧ a < 20 := ⟨(a0.tmod 20 % 20).toNat, by omega, by omega⟩
  obtain ⟨b, hb, hb1⟩ : ∃ a : Nat, b0.tmod 20 % 20 = (a : Int) ∧ a < 20 := ⟨(b0.tmod 20 % 20).toNat, by omega, by omega⟩
  obtain ⟨c, hc, hc1⟩ : ∃ a : Nat, c0.tmod 20 % 20 = (a : Int) ∧ a < 20 := ⟨(c0.tmod 20 % 20).toNat, by omega, by omega⟩
  obtain ⟨h, hh, hh1⟩ : ∃ h : Nat, (a : Int).tdiv 2 = (h : Int) ∧ h ≤ a := ⟨a / 2, by rw [Int.tdiv_eq_ediv_of_nonneg (by omega)]; omega, by omega⟩
  go_enter Tryz.func6, Tryz.ntmps6
  go_wp2_with fail
  refine (begun7_true _ hg).mono ?_
  rintro e w1 ⟨rfl, hb1'⟩
  have HB1 : Hid (Below w.heap.size w w1) := hb1'
  clear hg hb1'
  go_wp2_with fail
  refine (new_at_pool 100 w1).mono ?_
  rintro e w2 ⟨pb, gb, rfl, hP2, hpb, hgb, hb2⟩
  have HB2 : Hid (Below w.heap.size w w2) := HB1.out.trans (hb2.mono HB1.out.size)
  have hgb0 : w.heap.size ≤ gb := by have := HB1.out.size; omega
  have HP2 : Hid (PoolAt w2 pb gb 100 (List.replicate 100 none)) := hP2
  clear hP2 hpb hgb hb2 HB1
  go_wp2_with fail
  refine (psize_at HP2.out 1 a (by omega)).mono ?_
  rintro e w3 ⟨rfl, hP3, hk3⟩
  rw [least_one a (by omega)] at hP3
  have HP3 : Hid (PoolAt w3 pb gb 100 (List.replicate a (some 1) ++ List.replicate (100 - a) none)) := hP3
  have HB3 : Hid (Below w.heap.size w w3) := HB2.out.trans (hk3.below HB2.out.size (fun i e => by omega))
  clear hP3 hk3 HP2 HB2
  go_wp2_with fail
  refine (psize_at HP3.out 2 b (by omega)).mono ?_
  rintro e w4 ⟨rfl, hP4, hk4⟩
  rw [least_two a b (by omega)] at hP4
  have HP4 : Hid (PoolAt w4 pb gb 100 (List.replicate a (some 1) ++ (List.replicate b (some 2) ++ List.replicate (100 - a - b) none))) := hP4
  have HB4 : Hid (Below w.heap.size w w4) := HB3.out.trans (hk4.below HB3.out.size (fun i e => by omega))
  clear hP4 hk4 HP3 HB3
  go_wp2_with fail
  refine (psize_at HP4.out 1 h (by omega)).mono ?_
  rintro e w5 ⟨rfl, hP5, hk5⟩
  rw [least_three a b h hh1 (by omega)] at hP5
  have HP5 : Hid (PoolAt w5 pb gb 100 (List.replicate h (some 1) ++ (List.replicate (a - h) none ++ (List.replicate b (some 2) ++ List.replicate (100 - a - b) none)))) := hP5
  have HB5 : Hid (Below w.heap.size w w5) := HB4.out.trans (hk5.below HB4.out.size (fun i e => by omega))
  clear hP5 hk5 HP4 HB4
  go_wp2_with fail
  refine (psize_at HP5.out 3 c (by omega)).mono ?_
  rintro e w6 ⟨rfl, hP6, hk6⟩
  rw [least_four a b c h hh1 (by omega)] at hP6
  have HB6 : Hid (Below w.heap.size w w6) := HB5.out.trans (hk6.below HB5.out.size (fun i e => by omega))
  have HO3 := least_of3 a b c h hh1
  have HO1 : Hid (_ = h) := least_len1 a b c h
  have HO2 : Hid (_ = b) := least_len2 a b c h
  have HG : Hid (∀ i, i < c → (List.range' h (min c (a - h)) ++ List.range' (a + b) (c - (a - h))).getD i 0 = if i < a - h then h + i else a + b + (i - (a - h))) := fun i hi => least_at a b c h i hi
  have hlen : (List.range' h (min c (a - h)) ++ List.range' (a + b) (c - (a - h))).length = c := by simp; omega
  generalize hLe : (List.replicate h (some 1) ++ ((List.replicate (min c (a - h)) (some 3) ++ List.replicate (a - h - c) none) ++ (List.replicate b (some 2) ++ (List.replicate (c - (a - h)) (some 3) ++ List.replicate (100 - a - b - (c - (a - h))) none))) : List (Option Int)) = L at *
  rw [← HO3] at HG hlen
  have HP6 : Hid (PoolAt w6 pb gb 100 L) := hP6
  have HL3 : Hid ((ofL L 3).length = c) := hlen
  clear hP6 hk6 HP5 HB5 HO3 hlen hLe
  go_wp2_with fail
  refine (of_at HP6.out 3).mono ?_
  rintro e w7 ⟨v, rfl, hv7, hb7⟩
  obtain ⟨pv, cv, rfl, _⟩ := hv7.shape
  have HP7 : Hid (PoolAt w7 pb gb 100 L) := HP6.out.below hb7
  have HB7 : Hid (Below w.heap.size w w7) := HB6.out.trans (hb7.mono HB6.out.size)
  have HV7 : Hid (IntsR w7 w6.heap.size (.slice pv (natsI (ofL L 3)).length cv) (natsI (ofL L 3))) := hv7
  have hlc : (natsI (ofL L 3)).length = c := by rw [natsI_length]; exact HL3.out
  rw [hlc] at HV7 ⊢
  clear hv7 hb7 HP6 HB6
  go_wp2_with fail
  go_loopw [45] (fun s45 wr => ∃ j : Nat, j ≤ c ∧ s45 = .int .i64 j ∧ Hid (wr = w7)) (fun s45 _ => c - (RowKit.intOf s45).toNat)
  case atStart => exact ⟨0, Nat.zero_le _, rfl, rfl⟩
  case round =>
    obtain ⟨j, hj, rfl, hwr⟩ := hrel
    have hwr' := hwr.out
    subst hwr'
    clear hwr
    by_cases hlt : j < c
    · obtain ⟨g, c', e1, _, _, _, hcell⟩ := HV7.out.at_ (by omega)
      rw [hlc] at e1 hcell
      obtain ⟨rfl, rfl⟩ : pv = some ⟨g, 0, none⟩ ∧ cv = c' := by injection e1 with x y z; exact ⟨x, z⟩
      have c0 := hcell j hlt
      rw [natsI_getD, HG.out j hlt] at c0
      clear hcell e1
      by_cases hja : j < a - h
      · rw [if_pos hja] at c0
        have hja' : ¬ ((a : Int) - h ≤ j) := by omega
        go_wp2_with fail
        exact ⟨⟨j + 1, hlt, rfl, trivial⟩, by simp [RowKit.intOf]; omega⟩
      · rw [if_neg hja] at c0
        have hcast : ((a + b + (j - (a - h)) : Nat) : Int) = a + b + j - (a - h) := by omega
        rw [hcast] at c0
        have hja' : (a : Int) - h ≤ j := by omega
        go_wp2_with fail
        exact ⟨⟨j + 1, hlt, rfl, trivial⟩, by simp [RowKit.intOf]; omega⟩
    · obtain rfl : j = c := by omega
      go_wp2_with fail
      refine (of_at HP7.out 1).mono ?_
      rintro e w8 ⟨v8, rfl, hv8, hb8⟩
      obtain ⟨pv8, cv8, rfl, _⟩ := hv8.shape
      rw [natsI_length, show (ofL L 1).length = h from HO1.out]
      have HP8 : Hid (PoolAt w8 pb gb 100 L) := HP7.out.below hb8
      have HB8 : Hid (Below w.heap.size w w8) := HB7.out.trans (hb8.mono HB7.out.size)
      clear hv8 hb8 HP7 HB7 HV7
      go_wp2_with fail
      refine (of_at HP8.out 2).mono ?_
      rintro e w9 ⟨v9, rfl, hv9, hb9⟩
      obtain ⟨pv9, cv9, rfl, _⟩ := hv9.shape
      rw [natsI_length, show (ofL L 2).length = b from HO2.out]
      have HB9 : Hid (Below w.heap.size w w9) := HB8.out.trans (hb9.mono HB8.out.size)
      clear hv9 hb9 HP8 HB8
      go_wp2_with fail
      go_ret
      exact ⟨rfl, HB9.out⟩
end Go.Proofs.YteehcffmccgciaaGreatDoor
