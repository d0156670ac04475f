import Derived.Test.YtmgdkaohdpdmkaaGreatDoorSlH
import Derived.Test.YtmgdkaohdpdmkaaGreatDoorBgD
import Derived.Deep.DeepCutAuto
namespace Go.Proofs.YtmgdkaohdpdmkaaGreatDoor
open Go.RowKit

theorem IntsAt.lt {w : World} {L : Nat} {a : Option Addr} {n : Nat} {A : List Int} (h : IntsAt w L a n A) {b o : Nat} (e : a = some ⟨b, o, none⟩) (hn : n ≠ 0) : b < L := by
  rcases h.at_ with q | ⟨b', o', e', hb', _⟩
  · exact absurd q hn
  · rw [e] at e'; cases e'; exact hb'
theorem below_drewK {B : Nat} {a W : World} (h : Below B a W) (n : Nat) : Below B a (W.drewN n) := ⟨h.os, h.tape, h.output, h.size, h.block⟩

set_option maxRecDepth 100000 in
set_option maxHeartbeats 4000000 in
theorem slotAfter_true (a1 a2 a3 : Option Addr) (n1 n2 n3 c1 c2 c3 : Nat) (A1 A2 A3 : List Int) (w : World) (h1 : IntsAt w w.heap.size a1 n1 A1) (h2 : IntsAt w w.heap.size a2 n2 A2) (h3 : IntsAt w w.heap.size a3 n3 A3) (hc1 : n1 ≤ c1 ∧ c1 ≤ 9223372036854775807) (hc2 : n2 ≤ c2 ∧ c2 ≤ 9223372036854775807) (hc3 : n3 ≤ c3 ∧ c3 ≤ 9223372036854775807) (ka : Option Addr) (kl kc : Nat) (K : List Bool) (hK : KeepB w w.heap.size ka kl K) (hg : w.cell? ⟨0, 0, none⟩ = some errType) :
    Calls Tryz.prog 7 #[.slice a1 n1 c1, .slice a2 n2 c2, .slice a3 n3 c3, .slice ka kl kc] w fun e w' => e = .returned (.bool true) ∧ Below w.heap.size w w' := by
  go_enter Tryz.func7, Tryz.ntmps7
  go_wp2_with fail
  refine (begun4_true _ hg).mono ?_
  rintro e w1 ⟨rfl, hb1⟩
  clear hg
  go_wp2_with fail
  go_quiet (fail)
  have hbq := below_drewK hb1 nq
  have i1 := (h1.below hbq).head (min (n1 : Int) 4).toNat (by omega)
  have i2 := (h2.below hbq).head (min (n2 : Int) 4).toNat (by omega)
  have i3 := (h3.below hbq).head (min (n3 : Int) 4).toNat (by omega)
  have hKq := hK.below hbq
  have m1 : (min (n1 : Int) 4).toNat ≤ 4 := by omega
  have m2 : (min (n2 : Int) 4).toNat ≤ 4 := by omega
  have m3 : (min (n3 : Int) 4).toNat ≤ 4 := by omega
  clear h1 h2 h3 hb1 hK
  generalize w1.drewN nq = wq at hbq i1 i2 i3 hKq ⊢
  have hsq := hbq.size
  generalize A1.take (min (n1 : Int) 4).toNat = X1 at i1
  generalize A2.take (min (n2 : Int) 4).toNat = X2 at i2
  generalize A3.take (min (n3 : Int) 4).toNat = X3 at i3
  generalize (min (n1 : Int) 4).toNat = k1 at i1 m1 ⊢
  generalize (min (n2 : Int) 4).toNat = k2 at i2 m2 ⊢
  generalize (min (n3 : Int) 4).toNat = k3 at i3 m3 ⊢
  obtain rfl := i1.len
  obtain rfl := i2.len
  obtain rfl := i3.len
  go_wp2_with fail
  refine (new_at 64 wq (by omega) (by omega)).mono ?_
  rintro e w2 ⟨db, dn, mb, rfl, l1, l2, l3, hd2, hb2⟩
  have hs2 := hb2.size
  have hbw2 : Below w.heap.size w w2 := hbq.trans (hb2.mono hsq)
  have hBlen := hd2.len
  have hI1 : IntsAt w2 w2.heap.size a1 X1.length X1 := (i1.below (hb2.mono hsq)).up (by omega)
  have hI2 : IntsAt w2 w.heap.size a2 X2.length X2 := i2.below (hb2.mono hsq)
  have hI3 : IntsAt w2 w.heap.size a3 X3.length X3 := i3.below (hb2.mono hsq)
  have hI1' : IntsAt w2 w.heap.size a1 X1.length X1 := i1.below (hb2.mono hsq)
  have hK2 : KeepB w2 w.heap.size ka kl K := hKq.below (hb2.mono hsq)
  clear i1 i2 i3 hKq hb2 hbq
  go_wp2_with fail
  refine (make_at hd2 (by omega) a1 c1 X1 m1 hI1 (fun b o e hn => by have := hI1'.lt e hn; omega)).mono ?_
  rintro e w3 ⟨code, pv, mb3, k3', B3, D3, left3, down3, rfl, hd3, hk3, hm3, hK3, hM, _, hpv⟩
  obtain ⟨rfl, hG3⟩ := make_good hBlen (by omega) m1 hI1.fit hM
  obtain ⟨sb3, rfl, _, _, _⟩ := hpv rfl
  have hs3 := hK3.size
  have hbw3 : Below w.heap.size w w3 := hbw2.trans (hK3.below (by omega) (fun i e => by omega))
  have hb23 : Below w.heap.size w2 w3 := hK3.below (by omega) (fun i e => by omega)
  have J1 := hI1'.below hb23
  have J2 := hI2.below hb23
  have J3 := hI3.below hb23
  have hK3' := hK2.below hb23
  clear hI1 hI1' hI2 hI3 hK2 hM hpv hK3 hb23 hbw2 hd2 hBlen
  go_wp2_with fail
  refine (crash_l hd3 (by omega) kc hK3').mono ?_
  rintro e w4 ⟨L4, db4, nb4, mb4, cap4, hLp4, _, rfl, y1, y2, y3, hd4, hb4⟩
  obtain ⟨eB4, hG4⟩ := crash_good hG3 (K := K) hLp4
  rw [eB4] at hd4
  have hs4 := hb4.size
  have hbw4 : Below w.heap.size w w4 := hbw3.trans (hb4.mono (by omega))
  have P1 := J1.below (hb4.mono (by omega))
  have P2 := J2.below (hb4.mono (by omega))
  have P3 := J3.below (hb4.mono (by omega))
  have hK4 := hK3'.below (hb4.mono (by omega))
  clear J1 J2 J3 hK3' hd3 hG3 eB4 hLp4 hbw3 hb4
  go_wp2_with fail
  refine (open_at hd4).mono ?_
  rintro e w5 ⟨hb5, _, hS5⟩
  obtain ⟨at4, t4, hnew4⟩ := hG4.new
  obtain ⟨sb5, ka5, kc5, rfl, q1, hSl5, hJ5, hf5⟩ := hS5 t4 X1 (by rw [hnew4])
  have hs5 := hb5.size
  have hbw5 : Below w.heap.size w w5 := hbw4.trans (hb5.mono (by omega))
  have R1 := (P1.below (hb5.mono (by omega))).up (show w.heap.size ≤ w5.heap.size by omega)
  have R2 := P2.below (hb5.mono (by omega))
  have R3 := P3.below (hb5.mono (by omega))
  have hK5 := hK4.below (hb5.mono (by omega))
  have hd5 := hd4.keeps (Keeps.of_below (S := fun _ => False) hb5) (fun e => e) (fun e => e) (fun e => e)
  have dl4 := hd4.dlt
  have dn4 := hd4.nlt
  have dm4 := hd4.mlt
  clear P1 P2 P3 hK4 hS5 hd4 hb5 hbw4 hnew4
  go_wp2_with fail
  refine (ints_at (L := w5.heap.size) ka5 X1.length kc5 X1 hJ5 a1 X1.length c1 X1 R1 (by omega)).mono ?_
  rintro e w6 ⟨rfl, hsm6⟩
  rw [decide_eq_true rfl]
  have hk6 := hsm6.keeps (fun _ => False)
  have hz6 : w6.heap.size = w5.heap.size := by rw [hsm6.heap]
  have hb56 : Below w.heap.size w5 w6 := hk6.below (by omega) (fun _ e => e.elim)
  have hd6 := hd5.keeps hk6 (fun e => e) (fun e => e) (fun e => e)
  have hSl6 := hSl5.keeps hk6 (fun e => e)
  have S2 := R2.below hb56
  have S3 := R3.below hb56
  have hK6 := hK5.below hb56
  have hbw6 := hbw5.trans hb56
  have hB6 := hd6.len
  clear R1 R2 R3 hK5 hd5 hSl5 hJ5 hf5 hsm6 hk6 hb56 hbw5
  have S2' := S2.up (show w.heap.size ≤ w6.heap.size by omega)
  go_wp2_with fail
  refine (set_at hd6 hSl6 (by omega) (by omega) a2 c2 X2 m2 S2').mono ?_
  rintro e w7 ⟨code7, mb7, k7, B7, D7, left7, down7, rfl, hd7, hk7, hm7, hK7, hO7, hSl7⟩
  obtain ⟨rfl, hG7⟩ := save_good hB6 (by omega) m2 S2.fit hO7
  have hs7 := hK7.size
  have hb67 : Below w.heap.size w6 w7 := hK7.below (by omega) (fun i e => by omega)
  have hbw7 := hbw6.trans hb67
  have T2 := S2.below hb67
  have T3 := S3.below hb67
  have hKK7 := hK6.below hb67
  clear S2 S2' S3 hK6 hd6 hSl6 hSl7 hO7 hK7 hb67 hbw6 hB6 hG4
  go_wp2_with fail
  refine (crash_l hd7 (by omega) kc hKK7).mono ?_
  rintro e w8 ⟨L8, db8, nb8, mb8, cap8, hLp8, _, rfl, z1, z2, z3, hd8, hb8⟩
  obtain ⟨eB8, hG8⟩ := crash_good hG7 (K := K) hLp8
  rw [eB8] at hd8
  have hs8 := hb8.size
  have hbw8 : Below w.heap.size w w8 := hbw7.trans (hb8.mono (by omega))
  have P2 := T2.below (hb8.mono (by omega))
  have P3 := T3.below (hb8.mono (by omega))
  clear T2 T3 hKK7 hd7 hG7 eB8 hLp8 hbw7 hb8
  go_wp2_with fail
  refine (open_at hd8).mono ?_
  rintro e w9 ⟨hb9, _, hS9⟩
  obtain ⟨at8, t8, hnew8⟩ := hG8.new
  obtain ⟨sb9, ka9, kc9, rfl, q9, hSl9, hJ9, hf9⟩ := hS9 t8 X2 (by rw [hnew8])
  have hs9 := hb9.size
  have hbw9 : Below w.heap.size w w9 := hbw8.trans (hb9.mono (by omega))
  have R2 := (P2.below (hb9.mono (by omega))).up (show w.heap.size ≤ w9.heap.size by omega)
  have R3 := P3.below (hb9.mono (by omega))
  have hd9 := hd8.keeps (Keeps.of_below (S := fun _ => False) hb9) (fun e => e) (fun e => e) (fun e => e)
  have dl8 := hd8.dlt
  have dn8 := hd8.nlt
  have dm8 := hd8.mlt
  clear P2 P3 hS9 hd8 hb9 hbw8 hnew8
  go_wp2_with fail
  refine (ints_at (L := w9.heap.size) ka9 X2.length kc9 X2 hJ9 a2 X2.length c2 X2 R2 (by omega)).mono ?_
  rintro e w10 ⟨rfl, hsm10⟩
  rw [decide_eq_true rfl]
  have hk10 := hsm10.keeps (fun _ => False)
  have hz10 : w10.heap.size = w9.heap.size := by rw [hsm10.heap]
  have hb910 : Below w.heap.size w9 w10 := hk10.below (by omega) (fun _ e => e.elim)
  have hd10 := hd9.keeps hk10 (fun e => e) (fun e => e) (fun e => e)
  have hSl10 := hSl9.keeps hk10 (fun e => e)
  have S3 := R3.below hb910
  have hbw10 := hbw9.trans hb910
  have hB10 := hd10.len
  clear R2 R3 hd9 hSl9 hJ9 hf9 hsm10 hk10 hb910 hbw9
  have S3' := S3.up (show w.heap.size ≤ w10.heap.size by omega)
  go_wp2_with fail
  refine (set_at hd10 hSl10 (by omega) (by omega) a3 c3 X3 m3 S3').mono ?_
  rintro e w11 ⟨code11, mb11, k11, B11, D11, left11, down11, rfl, hd11, hk11, hm11, hK11, hO11, hSl11⟩
  obtain ⟨rfl, hG11⟩ := save_good hB10 (by omega) m3 S3.fit hO11
  have hs11 := hK11.size
  have hb1011 : Below w.heap.size w10 w11 := hK11.below (by omega) (fun i e => by omega)
  have hbw11 := hbw10.trans hb1011
  have T3 := S3.below hb1011
  clear S3 S3' hd10 hSl10 hSl11 hO11 hK11 hb1011 hbw10 hB10 hG8
  go_wp2_with fail
  have hKn : KeepB w11 0 none 0 [] := ⟨rfl, Or.inl rfl⟩
  refine (crash_l hd11 (by omega) 0 hKn).mono ?_
  rintro e w12 ⟨L12, db12, nb12, mb12, cap12, hLp12, _, rfl, u1, u2, u3, hd12, hb12⟩
  obtain ⟨eB12, hG12⟩ := crash_good hG11 (K := []) hLp12
  rw [eB12] at hd12
  have hs12 := hb12.size
  have hbw12 : Below w.heap.size w w12 := hbw11.trans (hb12.mono (by omega))
  have V3 := T3.below (hb12.mono (by omega))
  clear T3 hd11 hG11 eB12 hLp12 hbw11 hb12 hKn
  go_wp2_with fail
  refine (open_at hd12).mono ?_
  rintro e w13 ⟨hb13, _, hS13⟩
  obtain ⟨at12, t12, hnew12⟩ := hG12.new
  obtain ⟨sb13, ka13, kc13, rfl, q13, hSl13, hJ13, hf13⟩ := hS13 t12 X3 (by rw [hnew12])
  have hs13 := hb13.size
  have hbw13 : Below w.heap.size w w13 := hbw12.trans (hb13.mono (by omega))
  have R3 := (V3.below (hb13.mono (by omega))).up (show w.heap.size ≤ w13.heap.size by omega)
  clear V3 hS13 hd12 hb13 hbw12 hnew12 hSl13 hf13 hG12
  go_wp2_with fail
  refine (ints_at (L := w13.heap.size) ka13 X3.length kc13 X3 hJ13 a3 X3.length c3 X3 R3 (by omega)).mono ?_
  rintro e w14 ⟨rfl, hsm14⟩
  rw [decide_eq_true rfl]
  have hb1314 : Below w.heap.size w13 w14 := (hsm14.keeps (fun _ => False)).below (by omega) (fun _ e => e.elim)
  have hbw14 := hbw13.trans hb1314
  clear R3 hJ13 hsm14 hb1314 hbw13
  go_wp2_with fail
  go_ret
  exact ⟨rfl, hbw14⟩
end Go.Proofs.YtmgdkaohdpdmkaaGreatDoor
