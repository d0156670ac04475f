import Derived.Test.YtmdjjnjhjojimaaDoorOwnA
import Derived.Test.YtmdjjnjhjojimaaDoorBegB
import Derived.Deep.RegionHeld3
namespace Go.Proofs.YtmdjjnjhjojimaaDoor
open Go.RowKit Go.Maps

theorem below_step {a W w' : World} (h : Below a.heap.size a W) (hb : Below W.heap.size W w') : Below a.heap.size a w' := h.trans (hb.mono h.size)
theorem below_drew {a W : World} (h : Below a.heap.size a W) : Below a.heap.size a W.drew := ⟨h.os, h.tape, h.output, h.size, h.block⟩
theorem own_keep {a W w' : World} {gl db : Nat} {v u : Value} (h1 : Below a.heap.size a W) (h2 : W.cell? ⟨gl, 0, none⟩ = some v) (h3 : W.cell? ⟨db, 3, none⟩ = some u) (hb : Below W.heap.size W w') :
    Below a.heap.size a w' ∧ w'.cell? ⟨gl, 0, none⟩ = some v ∧ w'.cell? ⟨db, 3, none⟩ = some u :=
  ⟨below_step h1 hb, (hb.cell (p := ⟨gl, 0, none⟩) (World.block_lt_of_cell? _ _ h2)).trans h2, (hb.cell (p := ⟨db, 3, none⟩) (World.block_lt_of_cell? _ _ h3)).trans h3⟩
theorem conv_rep {w W : World} {g c : Nat} {x : UInt8} (hr : w.rangeAt g 0 (bytesV (List.replicate 64 x))) (hb : Below w.heap.size w W) :
    (convert 33 9 (.slice (some ⟨g, 0, none⟩) 64 c)).run Tryd.prog W = .ok (.string ⟨(List.replicate 64 x).toArray⟩) W :=
  conv_bytes g 0 64 c (List.replicate 64 x) W (List.length_replicate ..) (fun j v hv => (hb.cell (p := ⟨g, 0 + j, none⟩) (World.block_lt_of_cell? _ _ (hr j v hv))).trans (hr j v hv))

set_option maxRecDepth 100000 in
set_option maxHeartbeats 4000000 in
theorem devOwn_true (i : Int) (x : UInt8) (ka : Option Addr) (kl kc : Nat) (w : World) (hv : KeepAt w (.slice ka kl kc)) (hg : w.cell? ⟨0, 0, none⟩ = some errType) :
    Calls Tryd.prog 5 #[.int .i64 i, .int .u8 x.toNat, .slice ka kl kc] w fun e w' => e = .returned (.bool true) ∧ Below w.heap.size w w' := by
  have hN1 := rem_any i 64 (by omega)
  go_enter Tryd.func5, Tryd.ntmps5
  go_wp2_with fail
  refine (begun_true _ hg).mono ?_
  rintro e w1 ⟨rfl, hb1⟩
  go_wp2_with fail
  refine (new_at 64 w1 (by omega) (by omega)).mono ?_
  rintro e w2 ⟨db, nb, mb, rfl, l1, l2, l3, hd2, hb2⟩
  have hb : Below w.heap.size w w2 := hb1.trans (hb2.mono hb1.size)
  have hbs1 := hb1.size
  clear hb1 hb2 hg
  have hq : 0 ≤ (i.tmod 64 + 64) % 64 ∧ (i.tmod 64 + 64) % 64 < 64 := by omega
  go_wp2_with fail
  clear hN1
  generalize (i.tmod 64 + 64) % 64 = q at hq ⊢
  obtain ⟨ib, rfl⟩ : ∃ ib : Nat, q = (ib : Int) := ⟨q.toNat, by omega⟩
  have hib : ib < 64 := by omega
  clear hq
  refine (bytes_at x w2).mono ?_
  rintro e w3 ⟨g, rfl, hg1, hg2, hr3, ht3, hb3⟩
  have hd3 := hd2.keeps (Keeps.of_below (S := fun _ => False) hb3) (fun e => e) (fun e => e) (fun e => e)
  have hbw3 : Below w.heap.size w w3 := hb.trans (hb3.mono hb.size)
  have hdl := hd2.dlt
  have hnl := hd2.nlt
  have hml := hd2.mlt
  have hs2 := hb.size
  clear hd2 hb hb3
  go_wp2_with fail
  refine (write_new hd3 ib hib (List.replicate 64 x) (List.length_replicate ..) g 0 64 hr3 (by omega) (by decide) rfl).mono ?_
  rintro e w4 ⟨rfl, hd4, hk4⟩
  have hd4 : DevAt w4 db nb mb 64 64 (put (List.replicate (64 * 64) 0) ib (List.replicate 64 x)) 1 (oneD ib (sec (List.replicate (64 * 64) 0) ib)) 0 false := hd4
  have hsec : sec (put (List.replicate (64 * 64) 0) ib (List.replicate 64 x)) ib = List.replicate 64 x := sec_put_same (n := 64) (by simp) hib (by simp)
  have HS : Hid (sec (put (List.replicate (64 * 64) 0) ib (List.replicate 64 x)) ib = List.replicate 64 x) := hsec
  clear hsec
  generalize put (List.replicate (64 * 64) 0) ib (List.replicate 64 x) = B4 at hd4 HS
  generalize sec (List.replicate (64 * 64) 0) ib = s4 at hd4
  have hbw4 : Below w.heap.size w w4 := hbw3.trans (hk4.below hbw3.size (fun i e => by omega))
  have hc4 : w4.cell? ⟨g, 0, none⟩ = some (.int .u8 x.toNat) := (hk4.cell (p := ⟨g, 0, none⟩) hg2 (by show ¬ (g = db ∨ g = nb ∨ g = mb); omega)).trans (hr3 0 (.int .u8 x.toNat) rfl)
  have hf4 : w4.frozen? ⟨g, 0, none⟩ = false := (hk4.frozen (p := ⟨g, 0, none⟩) hg2 (by show ¬ (g = db ∨ g = nb ∨ g = mb); omega)).trans (by have := (ht3 0 (by omega)).2; simpa using this)
  have hs4 := hk4.size
  clear hd3 hbw3 hr3 ht3 hk4
  go_wp2_with fail
  have hk5 : Keeps (fun j => j = g) w4 (w4.setCell ⟨g, 0, none⟩ (.int .u8 (((x.toNat : Int) + 1) % 256))) := (Keeps.refl (fun j => j = g) w4).setCell (p := ⟨g, 0, none⟩) rfl _
  have hd5 := hd4.keeps hk5 (by omega) (by omega) (by omega)
  have hbw5 : Below w.heap.size w (w4.setCell ⟨g, 0, none⟩ (.int .u8 (((x.toNat : Int) + 1) % 256))) := hbw4.trans (hk5.below hbw4.size (fun i e => by omega))
  have hs5 := hk5.size
  generalize w4.setCell ⟨g, 0, none⟩ (.int .u8 (((x.toNat : Int) + 1) % 256)) = w5 at hd5 hbw5 hs5 ⊢
  clear hk5 hd4 hbw4 hc4 hf4
  refine (read_own hd5 ib hib).mono ?_
  rintro e w6 ⟨gc, cc, rfl, n1, n2, hr6, hf6, hb6⟩
  rw [HS.out] at hr6
  have hd6 := hd5.keeps (Keeps.of_below (S := fun _ => False) hb6) (fun e => e) (fun e => e) (fun e => e)
  have hbw6 : Below w.heap.size w w6 := hbw5.trans (hb6.mono hbw5.size)
  have hs6 := hb6.size
  clear hd5 hbw5 hb6
  have hcv : ∀ W, Below w6.heap.size w6 W → (convert 33 9 (.slice (some ⟨gc, 0, none⟩) 64 cc)).run Tryd.prog W = .ok (.string ⟨(List.replicate 64 x).toArray⟩) W := fun W hb => conv_rep hr6 hb
  go_wp2_with fail
  refine wp_region_noPanic ?_
  go_region_held (fun w' => Below w6.heap.size w6 w') (first | assumption | exact Below.refl _ _ | exact below_drew (Below.refl _ _) | exact below_drew ‹_› | exact below_step ‹_› ‹_›)
    (first
      | (go_at_call 12; refine (bytes_at x _).mono ?_; rintro e w7 ⟨g7, rfl, n3, n4, hr7, ht7, hb7⟩; have hcv7 := @conv_rep w7 w7 g7 64 x hr7 (Below.refl _ _)))
  refine NoPanic.normal ?_
  have hb67 : Below w6.heap.size w6 w7 := by assumption
  have hd7 := hd6.keeps (Keeps.of_below (S := fun _ => False) hb67) (fun e => e) (fun e => e) (fun e => e)
  have hbw7 : Below w.heap.size w w7 := hbw6.trans (hb67.mono hbw6.size)
  have hc7 : w7.cell? ⟨gc, 0, none⟩ = some (.int .u8 x.toNat) := (hb67.cell (p := ⟨gc, 0, none⟩) n2).trans (hr6 0 (.int .u8 x.toNat) rfl)
  have hf7 : w7.frozen? ⟨gc, 0, none⟩ = false := (hb67.frozen (p := ⟨gc, 0, none⟩) n2).trans (hf6 0)
  have hs7 := hb67.size
  clear hd6 hbw6 hb7 hr6 hf6 hcv hcv7 hr7 ht7 hb67
  go_wp2_with fail
  have hk8 : Keeps (fun j => j = gc) w7 (w7.setCell ⟨gc, 0, none⟩ (.int .u8 (((x.toNat : Int) + 1) % 256))) := (Keeps.refl (fun j => j = gc) w7).setCell (p := ⟨gc, 0, none⟩) rfl _
  have hd8 := hd7.keeps hk8 (by omega) (by omega) (by omega)
  have hbw8 : Below w.heap.size w (w7.setCell ⟨gc, 0, none⟩ (.int .u8 (((x.toNat : Int) + 1) % 256))) := hbw7.trans (hk8.below hbw7.size (fun i e => by omega))
  have hs8 := hk8.size
  generalize w7.setCell ⟨gc, 0, none⟩ (.int .u8 (((x.toNat : Int) + 1) % 256)) = w8 at hd8 hbw8 hs8 ⊢
  clear hk8 hd7 hbw7 hc7 hf7
  refine (crash_any hd8 (by omega) _ (hv.below hbw8)).mono ?_
  rintro e w9 ⟨B9, de, ne, me, ce, rfl, m1, m2, m3, he9, hb9⟩
  have hd9 := hd8.keeps (Keeps.of_below (S := fun _ => False) hb9) (fun e => e) (fun e => e) (fun e => e)
  have hbw9 : Below w.heap.size w w9 := hbw8.trans (hb9.mono hbw8.size)
  have hs9 := hb9.size
  have hd8l := hd8.dlt
  have hn8l := hd8.nlt
  have hm8l := hd8.mlt
  clear hd8 hbw8 hb9 hv
  go_wp2_with fail
  have hcall := bytes_at (x + 1) w9
  rw [show (((x + 1).toNat : Nat) : Int) = ((x.toNat : Int) + 1) % 256 from by rw [UInt8.toNat_add]; simp] at hcall
  refine hcall.mono ?_
  clear hcall
  rintro e w10 ⟨g10, rfl, q1, q2, hr10, _, hb10⟩
  have he10 := he9.keeps (Keeps.of_below (S := fun _ => False) hb10) (fun e => e) (fun e => e) (fun e => e)
  have hd10 := hd9.keeps (Keeps.of_below (S := fun _ => False) hb10) (fun e => e) (fun e => e) (fun e => e)
  have hbw10 : Below w.heap.size w w10 := hbw9.trans (hb10.mono hbw9.size)
  have he9l := he9.mlt
  have hs10 := hb10.size
  clear he9 hd9 hbw9 hb10
  go_wp2_with fail
  refine (write_ok he10 ib hib (List.replicate 64 (x + 1)) (List.length_replicate ..) g10 0 64 hr10 (by omega) (by decide)).mono ?_
  rintro e w11 ⟨k11, D11, rfl, _, _, hk11⟩
  have hd11 := hd10.keeps hk11 (by omega) (by omega) (by omega)
  have hbw11 : Below w.heap.size w w11 := hbw10.trans (hk11.below hbw10.size (fun i e => by omega))
  have hs11 := hk11.size
  clear he10 hd10 hbw10 hk11 hr10
  go_wp2_with fail
  refine (read_own hd11 ib hib).mono ?_
  rintro e w12 ⟨gd, cd, rfl, r1, r2, hr12, _, hb12⟩
  rw [HS.out] at hr12
  have hd12 := hd11.keeps (Keeps.of_below (S := fun _ => False) hb12) (fun e => e) (fun e => e) (fun e => e)
  have hbw12 : Below w.heap.size w w12 := hbw11.trans (hb12.mono hbw11.size)
  clear hd11 hbw11 hb12
  go_wp2_with fail
  refine (loose_one hd12 (by omega)).mono ?_
  rintro e w13 ⟨gl, cl, rfl, hl13, hb13⟩
  have hd13 := hd12.keeps (Keeps.of_below (S := fun _ => False) hb13) (fun e => e) (fun e => e) (fun e => e)
  have hbw13 : Below w.heap.size w w13 := hbw12.trans (hb13.mono hbw12.size)
  have hcv : ∀ W, Below w13.heap.size w13 W → (convert 33 9 (.slice (some ⟨gd, 0, none⟩) 64 cd)).run Tryd.prog W = .ok (.string ⟨(List.replicate 64 x).toArray⟩) W := fun W hb => conv_rep hr12 (hb13.trans (hb.mono hb13.size))
  have hn3 := hd13.c3
  clear hd12 hbw12 hb13
  go_wp2_with fail
  refine wp_region_noPanic ?_
  go_region_held (fun w' => Below w13.heap.size w13 w' ∧ w'.cell? ⟨gl, 0, none⟩ = some (.int .i64 (ib : Int)) ∧ w'.cell? ⟨db, 3, none⟩ = some (.bool false))
    (first
      | assumption
      | exact ⟨below_drew (Below.refl _ _), hl13, hn3⟩
      | exact own_keep (by assumption) (by assumption) (by assumption) (by assumption)
      | exact own_keep (And.left (by assumption)) (And.left (And.right (by assumption))) (And.right (And.right (by assumption))) (by assumption)
      | exact ⟨by assumption, by assumption, by assumption⟩)
    (first
      | (go_at_call 12; refine (bytes_at x _).mono ?_; rintro e w14 ⟨g14, rfl, n13, n14, hr14, ht14, hb14⟩; have hcv14 := @conv_rep w14 w14 g14 64 x hr14 (Below.refl _ _))
      | (go_at_call 20; refine (down_any _ false _ (by first | assumption | simp [*])).mono ?_; rintro e w15 ⟨rfl, hw⟩; obtain rfl := hw.symm; clear hw))
  refine NoPanic.normal ?_
  have hbE : Below w13.heap.size w13 w14 := by first | assumption | exact And.left (by assumption)
  have hbF : Below w.heap.size w w14 := hbw13.trans (hbE.mono hbw13.size)
  go_wp2
  go_ret
  exact ⟨rfl, hbF⟩
end Go.Proofs.YtmdjjnjhjojimaaDoor
