import Derived.Test.YtpepjbgklgjoaaaGreatDoorNilC
import Derived.Test.YtpepjbgklgjoaaaGreatDoorBgD
namespace Go.Proofs.YtpepjbgklgjoaaaGreatDoor
open Go.RowKit Go.Maps

theorem told_zero : told (List.replicate (64 * 64) 0) = none := by
  unfold told
  rw [sec_zero 64 0 (by decide), sec_zero 64 1 (by decide), newest_zero]
  rfl
set_option maxRecDepth 100000 in
set_option maxHeartbeats 4000000 in
theorem keptNone_true (w : World) (hg : w.cell? ⟨0, 0, none⟩ = some errType) :
    Calls Tryz.prog 3 #[] w fun e w' => e = .returned (.bool true) ∧ Below w.heap.size w w' := by
  have hw0 : 0 < w.heap.size := World.block_lt_of_cell? w _ hg
  have kc := fun (W : World) (C : Array Value) (m c : Nat) => Lib.run_convert_bytes_const (P := Tryz.prog) W 35 5 C m c Tryz.underlying35 Tryz.underlying5
  go_enter Tryz.func3, Tryz.ntmps3
  go_wp2_with fail
  refine (smake_nil none 0 [] w (by simp) ⟨rfl, fun x hx => (by cases hx), Or.inl rfl⟩).mono ?_
  rintro e w1 ⟨rfl, hb1⟩
  have hs1 := hb1.size
  go_wp2_with fail
  refine (sopen_nil w1).mono ?_
  rintro e w2 ⟨rfl, hw2⟩
  subst hw2
  go_wp2_with fail
  refine (wmake_nil w2).mono ?_
  rintro e w3 ⟨rfl, hb3⟩
  have hs3 := hb3.size
  have hbw3 : Below w.heap.size w w3 := hb1.trans (hb3.mono hs1)
  clear hb1 hb3
  go_wp2_with fail
  refine (wopen_nil w3).mono ?_
  rintro e w4 ⟨rfl, hw4⟩
  subst hw4
  go_wp2_with fail
  refine (sget_nil w4).mono ?_
  rintro e w5 ⟨rfl, hw5⟩
  subst hw5
  go_wp2_with fail
  refine (area_nil w5).mono ?_
  rintro e w6 ⟨rfl, hw6⟩
  subst hw6
  go_wp2_with fail
  refine (new_at 64 w6 (by omega) (by omega)).mono ?_
  rintro e w7 ⟨db, nb, mb, rfl, l1, l2, l3, _, hb7⟩
  have hs7 := hb7.size
  have hbw7 : Below w.heap.size w w7 := hbw3.trans (hb7.mono (by omega))
  clear hbw3 hb7
  go_wp2_with fail
  refine (smake_long _ _ 5 _ (by decide) _).mono ?_
  rintro e w8 ⟨rfl, hw8⟩
  have hbw8 : Below w.heap.size w w8 := by rw [hw8]; exact hbw7.alloc (by omega) _
  have hs8 := hbw8.size
  clear hw8 hbw7
  go_wp2_with fail
  refine (new_at 64 w8 (by omega) (by omega)).mono ?_
  rintro e w9 ⟨db9, nb9, mb9, rfl, _, _, _, hd9, hb9⟩
  have hs9 := hb9.size
  have hbw9 : Below w.heap.size w w9 := hbw8.trans (hb9.mono (by omega))
  have HWo : Hid (Calls Tryz.prog 12 #[.pointer (some ⟨db9, 0, none⟩)] w9 fun e w' => e = .returned (.tuple #[.pointer none, .slice none 0 0, .int .i64 10]) ∧ Below w9.heap.size w9 w') := by
    refine wopen_none hd9 ?_
    have := told_zero
    unfold told at this
    cases hx : (newestOf (sec (List.replicate (64 * 64) 0) 0) (sec (List.replicate (64 * 64) 0) 1)).2 with
    | none => rfl
    | some c => rw [hx] at this; cases this
  clear hd9 hb9 hbw8
  go_wp2_with fail
  refine HWo.out.mono ?_
  rintro e w10 ⟨rfl, hb10⟩
  have hs10 := hb10.size
  have hbw10 : Below w.heap.size w w10 := hbw9.trans (hb10.mono (by omega))
  have hg10 : w10.cell? ⟨0, 0, none⟩ = some errType := (hbw10.cell (p := ⟨0, 0, none⟩) hw0).trans hg
  clear HWo hb10 hbw9 hg
  go_wp2_with fail
  refine (begun4_true w10 hg10).mono ?_
  rintro e w11 ⟨rfl, hb11⟩
  have hs11 := hb11.size
  have hbw11 : Below w.heap.size w w11 := hbw10.trans (hb11.mono (by omega))
  clear hb11 hbw10 hg10
  go_wp2_with fail
  refine (sset_nil _ _).mono ?_
  rintro e w12 ⟨rfl, hw12⟩
  have hbw12 : Below w.heap.size w w12 := by rw [hw12]; exact hbw11.alloc (by omega) _
  have hs12 := hbw12.size
  clear hw12 hbw11
  go_wp2_with fail
  refine (append_nil _ _).mono ?_
  rintro e w13 ⟨rfl, hw13⟩
  have hbw13 : Below w.heap.size w w13 := by rw [hw13]; exact hbw12.alloc (by omega) _
  have hs13 := hbw13.size
  clear hw13 hbw12 kc
  go_wp2_with fail
  refine (reset_nil 1 1 w13).mono ?_
  rintro e w14 ⟨rfl, hw14⟩
  subst hw14
  go_wp2_with fail
  refine (room_nil w14).mono ?_
  rintro e w15 ⟨rfl, hw15⟩
  subst hw15
  go_wp2_with fail
  refine (most_nil w15).mono ?_
  rintro e w16 ⟨rfl, hw16⟩
  subst hw16
  go_wp2_with fail
  refine (sput_nil w16).mono ?_
  rintro e w17 ⟨rfl, hw17⟩
  subst hw17
  go_wp2_with fail
  go_ret
  exact ⟨rfl, hbw13⟩
end Go.Proofs.YtpepjbgklgjoaaaGreatDoor
