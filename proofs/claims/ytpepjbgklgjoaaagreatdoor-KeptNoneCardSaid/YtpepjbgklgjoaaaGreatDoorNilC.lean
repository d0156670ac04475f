import Derived.Test.YtpepjbgklgjoaaaGreatDoorNilB
namespace Go.Proofs.YtpepjbgklgjoaaaGreatDoor
open Go.RowKit Go.Maps

set_option maxRecDepth 100000 in
set_option maxHeartbeats 1000000 in
theorem save_nil (ka : Option Addr) (kc : Nat) (A : List Int) (w : World) (hl : A.length ≤ 4) (hA : IntsAt w w.heap.size ka A.length A) : Calls Tryz.prog 27 #[.pointer none, .slice ka A.length kc] w fun e w' => e = .returned (.int .i64 9) ∧ Below w.heap.size w w' := by
  go_enter Tryz.func27, Tryz.ntmps27
  go_wp2_with fail
  refine (newest_none w).mono ?_
  rintro e w1 ⟨rfl, hb1⟩
  have hbV : Below w1.heap.size w1 (w1.alloc (.cells #[.int .i64 0, .slice none 0 0] 63)) := (Below.refl _ w1).alloc (Nat.le_refl _) _
  have hs1 := hb1.size
  go_wp2_with fail
  generalize w1.alloc (.cells #[.int .i64 0, .slice none 0 0] 63) = wV at hbV ⊢
  have hbwV : Below w.heap.size w wV := hb1.trans (hbV.mono hs1)
  refine (after_at 0 (by decide) (by decide) wV).mono ?_
  rintro e w2 ⟨rfl, hw2⟩
  subst hw2
  have hfine : Fine (afterT 0) A := ⟨(afterT_fine 0).1, (afterT_fine 0).2, hl, hA.fit⟩
  have hA2 := (hA.below hbwV).up (show w.heap.size ≤ w2.heap.size from hbwV.size)
  generalize afterT 0 = t0 at hfine ⊢
  go_wp2_with fail
  refine (sector_at t0 A hfine ka kc w2 hA2).mono ?_
  rintro e w3 ⟨g3, rfl, p1, p2, p3, hb23⟩
  have hbw3 : Below w.heap.size w w3 := hbwV.trans (hb23.mono hbwV.size)
  clear hA hA2 hb1 hbV hb23 p3
  go_wp2_with fail
  refine (write_nil 1 _ w3).mono ?_
  rintro e w4 ⟨rfl, hw4⟩
  subst hw4
  go_wp2_with fail
  go_ret
  exact ⟨rfl, hbw3⟩
set_option maxRecDepth 100000 in
set_option maxHeartbeats 1000000 in
theorem smake_nil (ka : Option Addr) (kc : Nat) (A : List Int) (w : World) (hl : A.length ≤ 4) (hA : IntsAt w w.heap.size ka A.length A) : Calls Tryz.prog 9 #[.pointer none, .slice ka A.length kc] w fun e w' => e = .returned (.tuple #[.pointer none, .int .i64 9]) ∧ Below w.heap.size w w' := by
  have HSv : Hid (Calls Tryz.prog 27 #[.pointer none, .slice ka A.length kc] w fun e w' => e = .returned (.int .i64 9) ∧ Below w.heap.size w w') := save_nil ka kc A w hl hA
  clear hA
  go_enter Tryz.func9, Tryz.ntmps9
  go_wp2_with fail
  refine wp_loop_rounds 1 ?_
  rw [rounds_succ]
  go_wp2_with fail
  refine HSv.out.mono ?_
  rintro e w1 ⟨rfl, hb1⟩
  go_wp2_with fail
  go_ret2
  exact ⟨rfl, hb1⟩
set_option maxRecDepth 100000 in
theorem wmake_nil (w : World) : Calls Tryz.prog 11 #[.pointer none] w fun e w' => e = .returned (.tuple #[.pointer none, .int .i64 9]) ∧ Below w.heap.size w w' := by
  go_enter Tryz.func11, Tryz.ntmps11
  go_wp2_with fail
  refine (numbers_at 0 0 0 0 w fit0).mono ?_
  rintro e w2 ⟨g2, rfl, hg2, hI2, hb2⟩
  have hs2 := hb2.size
  go_wp2_with fail
  refine (smake_nil (some ⟨g2, 0, none⟩) 4 [0, 0, 0, 0] w2 (by simp) hI2).mono ?_
  rintro e w3 ⟨rfl, hb3⟩
  clear hI2
  go_wp2_with fail
  go_ret2
  exact ⟨rfl, hb2.trans (hb3.mono hs2)⟩
end Go.Proofs.YtpepjbgklgjoaaaGreatDoor
