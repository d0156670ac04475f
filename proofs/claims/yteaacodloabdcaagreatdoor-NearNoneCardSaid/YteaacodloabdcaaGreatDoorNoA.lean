import Derived.Test.YteaacodloabdcaaGreatDoorOrE
import Derived.Test.YteaacodloabdcaaGreatDoorBgE
import Derived.Test.YteaacodloabdcaaGreatDoorCpt
import Derived.Test.YteaacodloabdcaaGreatDoorBsW
import Derived.BigQuiet
namespace Go.Proofs.YteaacodloabdcaaGreatDoor
open Go.RowKit Go.Maps

theorem hit_box (w : World) : (∀ q, ((((w.alloc (.cells #[.int .i64 0, .int .i64 0] 25)).drewN q).setCell ⟨w.heap.size, 0, none⟩ (.int .i64 0)).setCell ⟨w.heap.size, 1, none⟩ (.int .i64 0)).cell? ⟨w.heap.size, 0, none⟩ = some (.int .i64 0) ∧ ((((w.alloc (.cells #[.int .i64 0, .int .i64 0] 25)).drewN q).setCell ⟨w.heap.size, 0, none⟩ (.int .i64 0)).setCell ⟨w.heap.size, 1, none⟩ (.int .i64 0)).cell? ⟨w.heap.size, 1, none⟩ = some (.int .i64 0) ∧ Below w.heap.size w ((((w.alloc (.cells #[.int .i64 0, .int .i64 0] 25)).drewN q).setCell ⟨w.heap.size, 0, none⟩ (.int .i64 0)).setCell ⟨w.heap.size, 1, none⟩ (.int .i64 0))) := fun q => by
  have hBA : Below w.heap.size w (w.alloc (.cells #[.int .i64 0, .int .i64 0] 25)) := (Below.refl _ w).alloc (Nat.le_refl _) _
  have x0 : ((w.alloc (.cells #[.int .i64 0, .int .i64 0] 25)).drewN q).cell? ⟨w.heap.size, 0, none⟩ = some (.int .i64 0) := by
    show (w.alloc (.cells #[.int .i64 0, .int .i64 0] 25)).cell? _ = _
    rw [cell_of_row _ _ 0 _ 25 (0, 0) (heap_alloc_last w _)]; rfl
  have x1 : ((w.alloc (.cells #[.int .i64 0, .int .i64 0] 25)).drewN q).cell? ⟨w.heap.size, 1, none⟩ = some (.int .i64 0) := by
    show (w.alloc (.cells #[.int .i64 0, .int .i64 0] 25)).cell? _ = _
    rw [cell_of_row _ _ 1 _ 25 (0, 0) (heap_alloc_last w _)]; rfl
  obtain ⟨y0, y1⟩ := two_set x0 x1 (.int .i64 0) (.int .i64 0)
  have hb3 : Below w.heap.size w ((w.alloc (.cells #[.int .i64 0, .int .i64 0] 25)).drewN q) := below_drewN hBA
  have hk := ((Keeps.refl (fun i => i = w.heap.size) ((w.alloc (.cells #[.int .i64 0, .int .i64 0] 25)).drewN q)).setCell (p := ⟨w.heap.size, 0, none⟩) rfl (.int .i64 0)).setCell (p := ⟨w.heap.size, 1, none⟩) rfl (.int .i64 0)
  exact ⟨y0, y1, hb3.trans (hk.below hb3.size (fun i e => by omega))⟩
set_option maxRecDepth 100000 in
set_option maxHeartbeats 2000000 in
theorem worst_nil (w : World) : Calls Tryz.prog 19 #[.pointer none] w fun e w' => e = .returned (.tuple #[.agg #[.int .i64 0, .int .i64 0], .bool false]) ∧ Below w.heap.size w w' := by
  have X0 : Hid _ := hit_box w
  go_enter Tryz.func19, Tryz.ntmps19
  go_wp2_with fail
  go_quiet (fail)
  go_wp2_with fail
  exact bodyPost_ret (resHit (p := 2) (q := 3) rfl _ _ w.heap.size _ _ _ rfl rfl (X0.out _).1 (X0.out _).2.1) rfl ⟨rfl, (X0.out _).2.2⟩
set_option maxRecDepth 100000 in
set_option maxHeartbeats 2000000 in
theorem bput_nil (x y : Int) (w : World) : Calls Tryz.prog 25 #[.pointer none, .agg #[.int .i64 x, .int .i64 y]] w fun e w' => e = .returned (.bool false) ∧ Below w.heap.size w w' := by
  have hBA : Hid (Below w.heap.size w (w.alloc (.cells #[.int .i64 x, .int .i64 y] 25))) := (Below.refl _ w).alloc (Nat.le_refl _) _
  go_enter Tryz.func25, Tryz.ntmps25
  go_wp2_with fail
  go_ret
  exact ⟨rfl, hBA.out⟩
theorem RdAt.belowN {w w' : World} {rb : Nat} {a : Option Addr} {c : Nat} {err : Int} (h : RdAt w rb [] a c err) (hb : Below w.heap.size w w') : RdAt w' rb [] a c err := h.keep (Keeps.of_below (S := fun _ => False) hb) (fun e => e) (fun _ _ _ h => absurd rfl h)
theorem oneHit (W : World) (x y : Int) (hx : -9223372036854775808 ≤ x ∧ x ≤ 9223372036854775807) : HitsIn (W.alloc (.cells #[.int .i64 x, .int .i64 y] 25)) (some ⟨W.heap.size, 0, none⟩) 1 [(x, y)] :=
  ⟨rfl, fun z hz => by simp at hz; subst hz; exact hx, Or.inr ⟨W.heap.size, 0, rfl, by simp, fun j hj => by
    have : j = 0 := by omega
    subst this
    exact ⟨by simp [hat], by simp [hat]⟩⟩⟩
theorem bestZ : bestOf (0 : Int).toNat [(1, 0)] = [] := by decide +kernel
theorem getNone : getV ([] : List UInt8) 0 = (none, [], 1) := by decide +kernel
theorem orderNil : ∀ f, (insW f 0) = [] := fun _ => rfl
theorem boundNil : boundV [] [] = 0 := by decide +kernel
theorem freesZ : frees (List.replicate (poolN (-5)) none) = 0 := by decide +kernel
theorem freesT : frees (List.replicate (poolN 2000) none) = 1000 := by decide +kernel
theorem mayNil : mayB [] 0 = false := by decide +kernel
theorem nearNil : nearL [] [] = -1 := by decide +kernel
theorem vecNil (w : World) : VecAt w none 0 0 [] := ⟨rfl, Nat.le_refl _, fun x hx => (by cases hx), Or.inl rfl⟩
theorem vecsNil (w : World) : VecsAt w none 0 0 [] := ⟨rfl, Nat.le_refl _, fun _ hi => absurd hi (Nat.not_lt_zero _)⟩
end Go.Proofs.YteaacodloabdcaaGreatDoor

namespace Go.Proofs.YteaacodloabdcaaGreatDoor
open Go.RowKit Go.Maps

set_option maxRecDepth 100000 in
set_option maxHeartbeats 8000000 in
theorem nearNone_true (w : World) (hg : w.cell? ⟨0, 0, none⟩ = some errType) : Calls Tryz.prog 5 #[] w fun e w' => e = .returned (.bool true) ∧ Below w.heap.size w w' := by
  have hw0 := World.block_lt_of_cell? w _ hg
  have hfd : ∀ W, (Instr.field 60 (.agg #[.slice none 0 0, .slice none 0 0]) 0).run Tryz.prog W = .ok (.slice none 0 0) W := fun W => by kernel_rfl
  go_enter Tryz.func5, Tryz.ntmps5
  go_wp2_with fail
  refine (worst_nil w).mono ?_
  rintro e w1 ⟨rfl, hb1⟩
  go_wp2_with fail
  have hA := (Below.refl _ w1).alloc (Nat.le_refl _) (.cells #[.int .i64 0, .int .i64 0] 25)
  have HB2 : Hid (Below w.heap.size w (w1.alloc (.cells #[.int .i64 0, .int .i64 0] 25))) := hb1.trans (hA.mono hb1.size)
  clear hb1 hA
  generalize w1.alloc (.cells #[.int .i64 0, .int .i64 0] 25) = w2 at *
  refine (newreader_nil 0 w2).mono ?_
  rintro e w3 ⟨rb, a3, c3, rfl, hrb, hRd, hb3⟩
  have HB3 : Hid (Below w.heap.size w w3) := HB2.out.trans (hb3.mono HB2.out.size)
  have HR3 : Hid (RdAt w3 rb [] a3 c3 0) := hRd
  have hg3 := (HB3.out.cell (p := ⟨0, 0, none⟩) hw0).trans hg
  have HRB : Hid (w.heap.size ≤ rb) := Nat.le_trans HB2.out.size hrb
  clear hb3 HB2 hRd hrb
  go_wp2_with fail
  refine (begun7_true _ hg3).mono ?_
  rintro e w4 ⟨rfl, hb4⟩
  have HR4 : Hid (RdAt w4 rb [] a3 c3 0) := HR3.out.belowN hb4
  have HB4 : Hid (Below w.heap.size w w4) := HB3.out.trans (hb4.mono HB3.out.size)
  clear hb4 HB3
  go_wp2_with fail
  clear HR3 hg3
  refine (psize_nil 1 1 w4).mono ?_
  rintro e w5 ⟨rfl, rfl⟩
  go_wp2_with fail
  refine (of_nil 1 _).mono ?_
  rintro e w6 ⟨rfl, rfl⟩
  go_wp2_with fail
  refine (free_nil _).mono ?_
  rintro e w7 ⟨rfl, rfl⟩
  go_wp2_with fail
  refine (own_nil _).mono ?_
  rintro e w8 ⟨rfl, rfl⟩
  go_wp2_with fail
  refine (bput_nil 0 0 _).mono ?_
  rintro e w9 ⟨rfl, hb9⟩
  have HB9 : Hid (Below w.heap.size w w9) := HB4.out.trans (hb9.mono HB4.out.size)
  have HR9 : Hid (RdAt w9 rb [] a3 c3 0) := HR4.out.belowN hb9
  clear hb9 HB4 HR4
  go_wp2_with fail
  refine (blen_nil _).mono ?_
  rintro e w10 ⟨rfl, rfl⟩
  go_wp2_with fail
  refine (ball_nil _).mono ?_
  rintro e w11 ⟨rfl, rfl⟩
  go_wp2_with fail
  have hA := (Below.refl _ w11).alloc (Nat.le_refl _) (.cells #[.int .i64 1, .int .i64 0] 25)
  have hH := oneHit w11 1 0 (by omega)
  have HB12 : Hid (Below w.heap.size w (w11.alloc (.cells #[.int .i64 1, .int .i64 0] 25))) := HB9.out.trans (hA.mono HB9.out.size)
  have HR12 : Hid (RdAt (w11.alloc (.cells #[.int .i64 1, .int .i64 0] 25)) rb [] a3 c3 0) := HR9.out.belowN hA
  clear hA HB9 HR9
  generalize w11.alloc (.cells #[.int .i64 1, .int .i64 0] 25) = w12 at *
  refine (bof_at 0 (by omega) hH (by omega)).mono ?_
  rw [bestZ]
  rintro e w13 ⟨v13, rfl, hR13, hb13⟩
  obtain ⟨p13, c13, rfl⟩ := hR13.shape
  have HB13 : Hid (Below w.heap.size w w13) := HB12.out.trans (hb13.mono HB12.out.size)
  have HR13 : Hid (RdAt w13 rb [] a3 c3 0) := HR12.out.belowN hb13
  clear hb13 HB12 HR12 hH hR13
  go_wp2_with fail
  refine (vget_at HR13.out).mono ?_
  rw [getNone]
  rintro e w14 ⟨v14, rfl, a14, c14, hv14, hRd14, hK14⟩
  have hv14 : v14 = .slice none 0 0 := hv14
  subst hv14
  have hrb := HRB.out
  have HB14 : Hid (Below w.heap.size w w14) := HB13.out.trans (hK14.below HB13.out.size (fun i e => by omega))
  have hc14 := hRd14.c1
  clear HB13 HR13 hRd14 hK14
  go_wp2_with fail
  refine (rerr_cell rb 1 w14 hc14).mono ?_
  rintro e w15 ⟨rfl, rfl⟩
  go_wp2_with fail
  refine (near_at (vecsNil _) (vecNil _) (by omega) (fun _ h => absurd h (Nat.not_lt_zero _))).mono ?_
  rw [nearNil]
  rintro e w16 ⟨rfl, hb16⟩
  have HB16 : Hid (Below w.heap.size w w16) := HB14.out.trans (hb16.mono HB14.out.size)
  clear hb16 HB14 hc14
  go_wp2_with fail
  refine (order_at (vecsNil _) (vecNil _) (by omega) (fun _ h => absurd h (Nat.not_lt_zero _))).mono ?_
  rintro e w17 ⟨gp, rfl, _, _, hb17⟩
  have HB17 : Hid (Below w.heap.size w w17) := HB16.out.trans (hb17.mono HB16.out.size)
  clear hb17 HB16
  go_wp2_with fail
  refine (qmake_none w17 none 0 0 0 (by omega)).mono ?_
  unfold bookV
  rintro e w18 ⟨rfl, hb18⟩
  have HB18 : Hid (Below w.heap.size w w18) := HB17.out.trans (hb18.mono HB17.out.size)
  clear hb18 HB17
  go_wp2_with fail
  refine (qmake_none w18 none 0 0 9 (by omega)).mono ?_
  unfold bookV
  rintro e w19 ⟨rfl, hb19⟩
  have HB19 : Hid (Below w.heap.size w w19) := HB18.out.trans (hb19.mono HB18.out.size)
  clear hb19 HB18
  go_wp2_with fail
  have hbd := bound_at (la := none) (ln := 0) (lc := 0) (sa := none) (sn := 0) (sc := 0) (L := []) (S := []) ⟨vecNil w19, vecNil w19⟩ (by omega) (by omega)
  unfold bookV at hbd
  rw [boundNil] at hbd
  refine hbd.mono ?_
  rintro e w20 ⟨rfl, hb20⟩
  have HB20 : Hid (Below w.heap.size w w20) := HB19.out.trans (hb20.mono HB19.out.size)
  clear hb20 HB19 hbd
  go_wp2_with fail
  refine (new_at_pool (-5) w20).mono ?_
  rintro e w21 ⟨pb, gb, rfl, hP, _, _, hb21⟩
  have HB21 : Hid (Below w.heap.size w w21) := HB20.out.trans (hb21.mono HB20.out.size)
  clear hb21 HB20
  go_wp2_with fail
  refine (free_at hP).mono ?_
  rw [freesZ]
  rintro e w22 ⟨rfl, hb22⟩
  have HB22 : Hid (Below w.heap.size w w22) := HB21.out.trans (hb22.mono HB21.out.size)
  clear hb22 HB21 hP
  go_wp2_with fail
  refine (new_at_pool 2000 w22).mono ?_
  rintro e w23 ⟨pb2, gb2, rfl, hP, _, _, hb23⟩
  have HB23 : Hid (Below w.heap.size w w23) := HB22.out.trans (hb23.mono HB22.out.size)
  clear hb23 HB22
  go_wp2_with fail
  refine (free_at hP).mono ?_
  rw [freesT]
  rintro e w24 ⟨rfl, hb24⟩
  have HB24 : Hid (Below w.heap.size w w24) := HB23.out.trans (hb24.mono HB23.out.size)
  clear hb24 HB23 hP
  go_wp2_with fail
  refine (may_at (vecNil _) 0).mono ?_
  rw [mayNil]
  rintro e w25 ⟨rfl, rfl⟩
  go_wp2_with fail
  have hA := (Below.refl _ w25).alloc (Nat.le_refl _) (.cells #[] 21)
  have HB26 : Hid (Below w.heap.size w (w25.alloc (.cells #[] 21))) := HB24.out.trans (hA.mono HB24.out.size)
  have hv : VecAt (w25.alloc (.cells #[] 21)) (some ⟨w25.heap.size, 0, none⟩) 0 0 [] := ⟨rfl, Nat.le_refl _, fun x hx => (by cases hx), Or.inl rfl⟩
  generalize w25.alloc (.cells #[] 21) = w26 at *
  refine (eq_at (vecNil _) hv (by omega)).mono ?_
  rintro e w27 ⟨rfl, hb27⟩
  have HB27 : Hid (Below w.heap.size w w27) := HB26.out.trans (hb27.mono HB26.out.size)
  clear hb27 HB26 hv hA
  go_wp2_with fail
  go_ret
  exact ⟨rfl, HB27.out⟩
end Go.Proofs.YteaacodloabdcaaGreatDoor
