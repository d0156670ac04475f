import Derived.Test.YtmgdkaohdpdmkaaGreatDoorSlH
import Derived.Test.YtmgdkaohdpdmkaaGreatDoorSaA
namespace Go.Proofs.YtmgdkaohdpdmkaaGreatDoor
open Go.RowKit

theorem told_zero : told (List.replicate (64 * 64) 0) = none := by
  unfold told
  rw [sec_zero 64 0 (by decide), sec_zero 64 1 (by decide), newest_zero]
  rfl
theorem told_none {B : List UInt8} (h : told B = none) : (newestOf (sec B 0) (sec B 1)).2 = none := by
  unfold told at h
  cases hx : (newestOf (sec B 0) (sec B 1)).2 with
  | none => rfl
  | some c => rw [hx] at h; cases h
set_option maxRecDepth 100000 in
set_option maxHeartbeats 1500000 in
theorem slotFirst_true (a1 : Option Addr) (n1 c1 : Nat) (A1 : List Int) (f0 : Int) (w : World) (h1 : IntsAt w w.heap.size a1 n1 A1) (hc1 : n1 ≤ c1 ∧ c1 ≤ 9223372036854775807) (ka : Option Addr) (kl kc : Nat) (K : List Bool) (hK : KeepB w w.heap.size ka kl K) (hg : w.cell? ⟨0, 0, none⟩ = some errType) :
    Calls Tryz.prog 5 #[.slice a1 n1 c1, .int .i64 f0, .slice ka kl kc] w fun e w' => e = .returned (.bool true) ∧ Below w.heap.size w w' := by
  have hr0 := rem_any f0 6 (by omega)
  go_enter Tryz.func5, Tryz.ntmps5
  go_wp2_with fail
  refine (begun4_true _ hg).mono ?_
  rintro e w1 ⟨rfl, hb1⟩
  clear hg
  go_wp2_with fail
  have hsq := hb1.size
  have i1 := (h1.below hb1).head (min (n1 : Int) 4).toNat (by omega)
  have hK1 := hK.below hb1
  have m1 : (min (n1 : Int) 4).toNat ≤ 4 := by omega
  generalize A1.take (min (n1 : Int) 4).toNat = X1 at i1
  generalize (min (n1 : Int) 4).toNat = k1 at i1 m1 ⊢
  obtain rfl := i1.len
  clear h1 hK
  refine (new_at 64 w1 (by omega) (by omega)).mono ?_
  rintro e w2 ⟨db, dn, mb, rfl, l1, l2, l3, hd2, hb2⟩
  have hs2 := hb2.size
  have hbw2 : Below w.heap.size w w2 := hb1.trans (hb2.mono hsq)
  have i2 := i1.below (hb2.mono hsq)
  have hK2 := hK1.below (hb2.mono hsq)
  obtain ⟨B0, hB0, ht0⟩ : ∃ B0, List.replicate (64 * 64) 0 = B0 ∧ told B0 = none := ⟨_, rfl, told_zero⟩
  rw [hB0] at hd2
  clear hB0
  have hz := told_none ht0
  clear i1 hK1 hb1 hb2
  go_wp2_with fail
  refine (open_at hd2).mono ?_
  rintro e w3 ⟨hb3, hN3, _⟩
  obtain rfl := hN3 hz
  clear hN3 hz
  have hs3 := hb3.size
  have hbw3 : Below w.heap.size w w3 := hbw2.trans (hb3.mono (by omega))
  have i3 := i2.below (hb3.mono (by omega))
  have hK3 := hK2.below (hb3.mono (by omega))
  have hd3 := hd2.keeps (Keeps.of_below (S := fun _ => False) hb3) (fun e => e) (fun e => e) (fun e => e)
  have dl := hd2.dlt
  have dnl := hd2.nlt
  have dml := hd2.mlt
  clear i2 hK2 hb3 hd2 hbw2
  go_wp2_with fail
  have hfb : f0.tmod 6 % 6 ≤ 9223372036854775807 := by omega
  generalize f0.tmod 6 % 6 = ff at hfb ⊢
  refine (fuse_any hd3 ff hfb).mono ?_
  rintro e w4 ⟨rfl, hd4, hk4⟩
  have hs4 := hk4.size
  have hb34 : Below w.heap.size w3 w4 := hk4.below (by omega) (fun i e => by omega)
  have hbw4 := hbw3.trans hb34
  have i4 := i3.below hb34
  have hK4 := hK3.below hb34
  have i4' := i4.up (show w.heap.size ≤ w4.heap.size by omega)
  have hBl := hd4.len
  clear i3 hK3 hb34 hbw3 hd3 hk4 hr0
  go_wp2_with fail
  refine (make_at hd4 (by omega) a1 c1 X1 m1 i4' (fun b o e hn => by have := i4.lt e hn; omega)).mono ?_
  rintro e w5 ⟨code, pv, mb5, k5, B5, D5, left5, down5, rfl, hd5, hk5, hm5, hK5, hM, _, _⟩
  have hL := make_lasts (by omega) hBl rfl ht0 m1 i4.fit hM
  have hs5 := hK5.size
  have hb45 : Below w.heap.size w4 w5 := hK5.below (by omega) (fun i e => by omega)
  have hbw5 := hbw4.trans hb45
  have i5 := i4.below hb45
  have hKK5 := hK4.below hb45
  clear i4 i4' hK4 hb45 hbw4 hd4 hK5 hM hBl
  have HL : Hid ((code = 0 ∧ D5 = .map [] ∧ B5.length = 64 * 64 ∧ told B5 = some X1) ∨ (code = 9 ∧ ∃ x' y, Lasts 64 B5 D5 x' y ∧ (x' = none ∨ x' = some X1) ∧ (y = none ∨ y = some X1))) := hL
  clear hL
  go_wp2_with fail
  refine (crash_l hd5 (by omega) kc hKK5).mono ?_
  rintro e w6 ⟨L6, db6, nb6, mb6, cap6, hLp6, _, rfl, y1, y2, y3, hd6, hb6⟩
  have HR : Hid ((code = 0 ∧ told (crashB D5 K L6 B5 L6.length) = some X1) ∨ (code = 9 ∧ (told (crashB D5 K L6 B5 L6.length) = none ∨ told (crashB D5 K L6 B5 L6.length) = some X1))) := by
    rcases HL.out with ⟨rfl, rfl, hl, ht⟩ | ⟨rfl, x', y, hla, hx, hy⟩
    · have := (crash_lasts (n := 64) (by omega) ⟨hl, Or.inl ⟨rfl, ht, rfl⟩⟩ (K := K) hLp6).1
      exact Or.inl ⟨rfl, this.elim id id⟩
    · refine Or.inr ⟨rfl, ?_⟩
      rcases (crash_lasts (n := 64) (by omega) hla (K := K) hLp6).1 with e | e
      · rw [e]; exact hx
      · rw [e]; exact hy
  generalize crashB D5 K L6 B5 L6.length = B6 at hd6 HR
  have hs6 := hb6.size
  have hbw6 : Below w.heap.size w w6 := hbw5.trans (hb6.mono (by omega))
  have i6 := i5.below (hb6.mono (by omega))
  clear hd5 hKK5 HL hLp6 hb6 hbw5 i5
  go_wp2_with fail
  refine (open_at hd6).mono ?_
  rintro e w7 ⟨hb7, hN7, hS7⟩
  have hs7 := hb7.size
  have hbw7 : Below w.heap.size w w7 := hbw6.trans (hb7.mono (by omega))
  have i7 := (i6.below (hb7.mono (by omega))).up (show w.heap.size ≤ w7.heap.size by omega)
  clear hd6 hb7 hbw6 i6
  by_cases ht : told B6 = none
  · obtain rfl := hN7 (told_none ht)
    have hcode : code = 9 := by
      rcases HR.out with ⟨_, e⟩ | ⟨e, _⟩
      · rw [ht] at e; cases e
      · exact e
    subst hcode
    clear hN7 hS7 HR ht
    go_wp2_with fail
    all_goals go_ret
    all_goals exact ⟨rfl, hbw7⟩
  · have ht2 : told B6 = some X1 := by
      rcases HR.out with ⟨_, e⟩ | ⟨_, e | e⟩
      · exact e
      · exact absurd e ht
      · exact e
    obtain ⟨t7, hx7⟩ := told_some ht2
    obtain ⟨sb7, ka7, kc7, rfl, _, _, hJ7, _⟩ := hS7 t7 X1 hx7
    have hcode : code = 0 ∨ code = 9 := by rcases HR.out with ⟨e, _⟩ | ⟨e, _⟩; exact Or.inl e; exact Or.inr e
    clear hN7 hS7 HR ht ht2 hx7
    have HI : Hid (Calls Tryz.prog 16 #[.slice ka7 X1.length kc7, .slice a1 X1.length c1] w7 fun e w' => e = .returned (.bool true) ∧ Below w.heap.size w w') := by
      refine (ints_at (L := w7.heap.size) ka7 X1.length kc7 X1 hJ7 a1 X1.length c1 X1 i7 (by omega)).mono ?_
      rintro e w8 ⟨rfl, hsm⟩
      exact ⟨by rw [decide_eq_true rfl], hbw7.trans ((hsm.keeps (fun _ => False)).below (by omega) (fun _ e => e.elim))⟩
    clear hJ7 i7
    rcases hcode with rfl | rfl
    · go_wp2_with fail
      all_goals refine HI.out.mono ?_
      all_goals rintro e w8 ⟨rfl, hb8⟩
      all_goals go_wp2_with fail
      all_goals go_ret
      all_goals exact ⟨rfl, hb8⟩
    · go_wp2_with fail
      all_goals refine HI.out.mono ?_
      all_goals rintro e w8 ⟨rfl, hb8⟩
      all_goals go_wp2_with fail
      all_goals go_ret
      all_goals exact ⟨rfl, hb8⟩
end Go.Proofs.YtmgdkaohdpdmkaaGreatDoor
