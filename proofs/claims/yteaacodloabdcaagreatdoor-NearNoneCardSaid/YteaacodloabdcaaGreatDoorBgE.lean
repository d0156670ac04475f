import Derived.Test.YteaacodloabdcaaGreatDoorBhA
namespace Go.Proofs.YteaacodloabdcaaGreatDoor
open Go.RowKit Go.Maps

theorem put_step {w : World} {lo bb mb k : Nat} {v : Value} {W : List Hit} (h : BestW w lo bb mb k v W) (hk : (k : Int) ≤ 9223372036854775807) (x1 x2 : Int) (hx : -9223372036854775808 ≤ x1 ∧ x1 ≤ 9223372036854775807) (hl : W.length < 1000000) (hlo : lo ≤ w.heap.size) :
    Calls Tryz.prog 25 #[.pointer (some ⟨bb, 0, none⟩), .agg #[.int .i64 x1, .int .i64 x2]] w fun e w' => (∃ b, e = .returned (.bool b)) ∧ (∃ v', BestW w' lo bb mb k v' (putL k W (x1, x2)).1) ∧ Below lo w w' := by
  have h0 := h
  obtain ⟨H, hB, _⟩ := h0
  refine (bput_at h hk x1 x2 hx hl hlo).mono ?_
  rintro e w' ⟨rfl, ⟨v', hv, _⟩, hK⟩
  refine ⟨⟨_, rfl⟩, ⟨v', hv⟩, hK.below hlo (fun i e => ?_)⟩
  rcases e with e | e | e
  · have := hB.l1; omega
  · have := hB.l2; omega
  · exact (hB.row.ow i e).1
theorem wr_start (W : World) (base : Nat) (hb : base ≤ W.heap.size) : WrAt (W.alloc (.cells #[.slice none 0 0] 69)) W.heap.size base [] none 0 := by
  refine ⟨by simp, by simp, ?_, by simp; omega, by simp [Value.ownBlock]⟩
  exact World.ownsRow_nil _ _ _ _
/-- Two heads in a row. -/
theorem heads2 {W : World} {p q : Option Addr} {A B : List Int} {n m : Nat} (hp : VecAt W p n n A) (hq : VecAt W q m m B) (hn : n ≤ 1000) (hm : m ≤ 1000) :
    VecsAt (W.alloc (.cells #[.slice p n n, .slice q m m] 23)) (some ⟨W.heap.size, 0, none⟩) 2 2 [A, B] := by
  have hA : Below W.heap.size W (W.alloc (.cells #[.slice p n n, .slice q m m] 23)) := (Below.refl _ _).alloc (Nat.le_refl _) _
  refine ⟨rfl, Nat.le_refl _, fun i hi => ?_⟩
  rcases (show i = 0 ∨ i = 1 by omega) with rfl | rfl
  · exact ⟨W.heap.size, 0, p, n, n, rfl, by simp, by simp, by omega, hp.all hA⟩
  · exact ⟨W.heap.size, 0, q, m, m, rfl, by simp, by simp, by omega, hq.all hA⟩
theorem heads4 {W : World} {p1 p2 p3 p4 : Option Addr} {A B C D : List Int} (h1 : VecAt W p1 1 1 A) (h2 : VecAt W p2 1 1 B) (h3 : VecAt W p3 1 1 C) (h4 : VecAt W p4 1 1 D) :
    VecsAt (W.alloc (.cells #[.slice p1 1 1, .slice p2 1 1, .slice p3 1 1, .slice p4 1 1] 23)) (some ⟨W.heap.size, 0, none⟩) 4 4 [A, B, C, D] := by
  have hA : Below W.heap.size W (W.alloc (.cells #[.slice p1 1 1, .slice p2 1 1, .slice p3 1 1, .slice p4 1 1] 23)) := (Below.refl _ _).alloc (Nat.le_refl _) _
  refine ⟨rfl, Nat.le_refl _, fun i hi => ?_⟩
  rcases (show i = 0 ∨ i = 1 ∨ i = 2 ∨ i = 3 by omega) with rfl | rfl | rfl | rfl
  · exact ⟨W.heap.size, 0, p1, 1, 1, rfl, by simp, by simp, by omega, h1.all hA⟩
  · exact ⟨W.heap.size, 0, p2, 1, 1, rfl, by simp, by simp, by omega, h2.all hA⟩
  · exact ⟨W.heap.size, 0, p3, 1, 1, rfl, by simp, by simp, by omega, h3.all hA⟩
  · exact ⟨W.heap.size, 0, p4, 1, 1, rfl, by simp, by simp, by omega, h4.all hA⟩
theorem vec_next {W : World} {p : Option Addr} {n : Nat} {A : List Int} (h : VecAt W p n n A) (o : Obj) : VecAt (W.alloc o) p n n A := h.all ((Below.refl _ _).alloc (Nat.le_refl _) _)
theorem vecs_two (W : World) (x y : Int) (hx : -2147483648 ≤ x ∧ x ≤ 2147483647) (hy : -2147483648 ≤ y ∧ y ≤ 2147483647) :
    VecsAt (((W.alloc (.cells #[.int .i32 x] 21)).alloc (.cells #[.int .i32 y] 21)).alloc (.cells #[.slice (some ⟨W.heap.size, 0, none⟩) 1 1, .slice (some ⟨W.heap.size + 1, 0, none⟩) 1 1] 23)) (some ⟨W.heap.size + 1 + 1, 0, none⟩) 2 2 [[x], [y]] := by
  have h1 := vec_next (one_vec W x hx) (.cells #[.int .i32 y] 21)
  have h2 := one_vec (W.alloc (.cells #[.int .i32 x] 21)) y hy
  have hz : ((W.alloc (.cells #[.int .i32 x] 21)).alloc (.cells #[.int .i32 y] 21)).heap.size = W.heap.size + 1 + 1 := by simp
  rw [show (W.alloc (.cells #[.int .i32 x] 21)).heap.size = W.heap.size + 1 by simp] at h2
  have := heads2 h1 h2 (by omega) (by omega)
  rwa [hz] at this
theorem vecs_four (W : World) (x y z t : Int) (hx : -2147483648 ≤ x ∧ x ≤ 2147483647) (hy : -2147483648 ≤ y ∧ y ≤ 2147483647) (hz : -2147483648 ≤ z ∧ z ≤ 2147483647) (ht : -2147483648 ≤ t ∧ t ≤ 2147483647) :
    VecsAt (((((W.alloc (.cells #[.int .i32 x] 21)).alloc (.cells #[.int .i32 y] 21)).alloc (.cells #[.int .i32 z] 21)).alloc (.cells #[.int .i32 t] 21)).alloc (.cells #[.slice (some ⟨W.heap.size, 0, none⟩) 1 1, .slice (some ⟨W.heap.size + 1, 0, none⟩) 1 1, .slice (some ⟨W.heap.size + 1 + 1, 0, none⟩) 1 1, .slice (some ⟨W.heap.size + 1 + 1 + 1, 0, none⟩) 1 1] 23)) (some ⟨W.heap.size + 1 + 1 + 1 + 1, 0, none⟩) 4 4 [[x], [y], [z], [t]] := by
  have h1 := vec_next (vec_next (vec_next (one_vec W x hx) (.cells #[.int .i32 y] 21)) (.cells #[.int .i32 z] 21)) (.cells #[.int .i32 t] 21)
  have h2 := vec_next (vec_next (one_vec (W.alloc (.cells #[.int .i32 x] 21)) y hy) (.cells #[.int .i32 z] 21)) (.cells #[.int .i32 t] 21)
  have h3 := vec_next (one_vec ((W.alloc (.cells #[.int .i32 x] 21)).alloc (.cells #[.int .i32 y] 21)) z hz) (.cells #[.int .i32 t] 21)
  have h4 := one_vec (((W.alloc (.cells #[.int .i32 x] 21)).alloc (.cells #[.int .i32 y] 21)).alloc (.cells #[.int .i32 z] 21)) t ht
  have s1 : (W.alloc (.cells #[.int .i32 x] 21)).heap.size = W.heap.size + 1 := by simp
  have s2 : ((W.alloc (.cells #[.int .i32 x] 21)).alloc (.cells #[.int .i32 y] 21)).heap.size = W.heap.size + 1 + 1 := by simp
  have s3 : (((W.alloc (.cells #[.int .i32 x] 21)).alloc (.cells #[.int .i32 y] 21)).alloc (.cells #[.int .i32 z] 21)).heap.size = W.heap.size + 1 + 1 + 1 := by simp
  have s4 : ((((W.alloc (.cells #[.int .i32 x] 21)).alloc (.cells #[.int .i32 y] 21)).alloc (.cells #[.int .i32 z] 21)).alloc (.cells #[.int .i32 t] 21)).heap.size = W.heap.size + 1 + 1 + 1 + 1 := by simp
  rw [s1] at h2
  rw [s2] at h3
  rw [s3] at h4
  have := heads4 h1 h2 h3 h4
  rwa [s4] at this
theorem fitB : FitL 1 1048576 [[0], [10], [2], [12]] := by
  show ∀ v ∈ [[0], [10], [2], [12]], v.length = 1 ∧ ∀ x ∈ v, -1048576 ≤ x ∧ x ≤ 1048576
  decide +kernel
theorem two_two (W : World) (x y z t : Int) (hx : -2147483648 ≤ x ∧ x ≤ 2147483647) (hy : -2147483648 ≤ y ∧ y ≤ 2147483647) (hz : -2147483648 ≤ z ∧ z ≤ 2147483647) (ht : -2147483648 ≤ t ∧ t ≤ 2147483647) :
    VecAt ((W.alloc (.cells #[.int .i32 x, .int .i32 y] 21)).alloc (.cells #[.int .i32 z, .int .i32 t] 21)) (some ⟨W.heap.size, 0, none⟩) 2 2 [x, y] ∧ VecAt ((W.alloc (.cells #[.int .i32 x, .int .i32 y] 21)).alloc (.cells #[.int .i32 z, .int .i32 t] 21)) (some ⟨W.heap.size + 1, 0, none⟩) 2 2 [z, t] ∧ Below W.heap.size W ((W.alloc (.cells #[.int .i32 x, .int .i32 y] 21)).alloc (.cells #[.int .i32 z, .int .i32 t] 21)) := by
  have h1 := vec_next (two_vec W x y hx hy) (.cells #[.int .i32 z, .int .i32 t] 21)
  have h2 := two_vec (W.alloc (.cells #[.int .i32 x, .int .i32 y] 21)) z t hz ht
  rw [show (W.alloc (.cells #[.int .i32 x, .int .i32 y] 21)).heap.size = W.heap.size + 1 by simp] at h2
  exact ⟨h1, h2, ((Below.refl _ W).alloc (Nat.le_refl _) _).alloc (by simp) _⟩
/-- All that the beginning asks at its end. -/
structure EndB (w wr : World) (pb gb lo g7 c7 : Nat) (g12 : Option Addr) (c12 gs : Nat) (p16 : Option Addr) (c16 r : Nat) : Prop where
  p : PoolAt wr pb gb 10 poolB
  h : HitsR wr lo (.slice (some ⟨g7, 0, none⟩) 2 c7) [(2, 4), (3, 6)]
  v : VecAt wr g12 2 c12 [1, -2]
  u : Below w.heap.size w wr
  s : VecAt wr (some ⟨gs, 0, none⟩) 1 1 [2]
  c : ByAt wr p16 1 c16 [255]
  q : wr.cell? ⟨r, 1, none⟩ = some (.slice (some ⟨gs, 0, none⟩) 1 1)
theorem EndB.below {w wr w' : World} {pb gb lo g7 c7 : Nat} {g12 : Option Addr} {c12 gs : Nat} {p16 : Option Addr} {c16 r : Nat} (h : EndB w wr pb gb lo g7 c7 g12 c12 gs p16 c16 r) (hb : Below wr.heap.size wr w') : EndB w w' pb gb lo g7 c7 g12 c12 gs p16 c16 r :=
  have hrl : r < wr.heap.size := World.block_lt_of_cell? wr _ h.q
  ⟨h.p.below hb, h.h.below hb, h.v.all hb, h.u.trans (hb.mono h.u.size), h.s.all hb, h.c.all hb, (hb.cell (p := ⟨r, 1, none⟩) hrl).trans h.q⟩
set_option maxRecDepth 100000 in
set_option maxHeartbeats 8000000 in
theorem begun7_true (w : World) (hg : w.cell? ⟨0, 0, none⟩ = some errType) : Calls Tryz.prog 7 #[] w fun e w' => e = .returned (.bool true) ∧ Below w.heap.size w w' := by
  go_enter Tryz.func7, Tryz.ntmps7
  go_wp2_with fail
  refine (new_at_pool 10 w).mono ?_
  rintro e w1 ⟨pb, gb, rfl, hP, hpb, hgb, hb1⟩
  rw [show poolN 10 = 10 from rfl] at hP
  have hgl1 := hP.gl
  have hpl1 := hP.pl
  have HP : Hid (PoolAt w1 pb gb 10 (List.replicate 10 none)) := hP
  have HB1 : Hid (Below w.heap.size w w1) := hb1
  clear hP hb1
  go_wp2_with fail
  refine (bnew_at 2 w1).mono ?_
  rintro e w2 ⟨bb, mb, rfl, hB, hb2⟩
  have HL : Hid (w1.heap.size ≤ bb ∧ w1.heap.size ≤ mb) := ⟨hB.l1, hB.l2⟩
  have HW : Hid (BestW w2 w1.heap.size bb mb 2 (.slice none 0 0) []) := BestW.new hB
  have HP2 : Hid (PoolAt w2 pb gb 10 (List.replicate 10 none)) := HP.out.below hb2
  have HB2 : Hid (Below w.heap.size w w2) := HB1.out.trans (hb2.mono HB1.out.size)
  have HZ2 : Hid (w1.heap.size ≤ w2.heap.size) := hb2.size
  clear hB hb2 HP HB1
  go_wp2_with fail
  refine (psize_at HP2.out 5 3 (by omega)).mono ?_
  rw [poolB0]
  rintro e w3 ⟨rfl, hP3, hK3⟩
  have HP3 : Hid (PoolAt w3 pb gb 10 poolB) := hP3
  have HW3 : Hid (BestW w3 w1.heap.size bb mb 2 (.slice none 0 0) []) := HW.out.keeps hK3 (fun e => by have := HL.out; omega) (fun e => by have := HL.out; omega) (fun i e => by cases e)
  have HB3 : Hid (Below w.heap.size w w3) := HB2.out.trans (hK3.below HB2.out.size (fun i e => by omega))
  have HZ3 : Hid (w1.heap.size ≤ w3.heap.size) := Nat.le_trans HZ2.out hK3.size
  clear hP3 hK3 HP2 HB2 HW HZ2
  go_wp2_with fail
  have hw1 : w.heap.size ≤ w1.heap.size := by omega
  refine (put_step HW3.out (by omega) 1 9 (by omega) (by decide) HZ3.out).mono ?_
  rw [putB1]
  rintro e w4 ⟨⟨_, rfl⟩, ⟨v4, hW4⟩, hb4⟩
  have HW4 : Hid (BestW w4 w1.heap.size bb mb 2 v4 [(1, 9)]) := hW4
  have HP4 : Hid (PoolAt w4 pb gb 10 poolB) := HP3.out.keeps (Keeps.of_below2 hb4) (show ¬ w1.heap.size ≤ pb by omega) (show ¬ w1.heap.size ≤ gb by omega)
  have HB4 : Hid (Below w.heap.size w w4) := HB3.out.trans (hb4.mono (by omega))
  have HZ4 : Hid (w1.heap.size ≤ w4.heap.size) := Nat.le_trans HZ3.out hb4.size
  clear hW4 hb4 HP3 HB3 HW3 HZ3
  go_wp2_with fail
  refine (put_step HW4.out (by omega) 2 4 (by omega) (by decide) HZ4.out).mono ?_
  rw [putB2]
  rintro e w5 ⟨⟨_, rfl⟩, ⟨v5, hW5⟩, hb5⟩
  have HW5 : Hid (BestW w5 w1.heap.size bb mb 2 v5 [(2, 4), (1, 9)]) := hW5
  have HP5 : Hid (PoolAt w5 pb gb 10 poolB) := HP4.out.keeps (Keeps.of_below2 hb5) (show ¬ w1.heap.size ≤ pb by omega) (show ¬ w1.heap.size ≤ gb by omega)
  have HB5 : Hid (Below w.heap.size w w5) := HB4.out.trans (hb5.mono (by omega))
  have HZ5 : Hid (w1.heap.size ≤ w5.heap.size) := Nat.le_trans HZ4.out hb5.size
  clear hW5 hb5 HP4 HB4 HW4 HZ4
  go_wp2_with fail
  refine (put_step HW5.out (by omega) 3 6 (by omega) (by decide) HZ5.out).mono ?_
  rw [putB3]
  rintro e w6 ⟨⟨_, rfl⟩, ⟨v6, hW6⟩, hb6⟩
  have HW6 : Hid (BestW w6 w1.heap.size bb mb 2 v6 [(2, 4), (3, 6)]) := hW6
  have HP6 : Hid (PoolAt w6 pb gb 10 poolB) := HP5.out.keeps (Keeps.of_below2 hb6) (show ¬ w1.heap.size ≤ pb by omega) (show ¬ w1.heap.size ≤ gb by omega)
  have HB6 : Hid (Below w.heap.size w w6) := HB5.out.trans (hb6.mono (by omega))
  have HZ6 : Hid (w1.heap.size ≤ w6.heap.size) := Nat.le_trans HZ5.out hb6.size
  clear hW6 hb6 HP5 HB5 HW5 HZ5
  go_wp2_with fail
  refine (ball_at HW6.out).mono ?_
  rintro e w7 ⟨v7, rfl, hH, hb7⟩
  obtain ⟨g7, c7, rfl, _, hg7, _, _⟩ := hH.at_ 0 (by decide)
  have HH7 : Hid (HitsR w7 w6.heap.size (.slice (some ⟨g7, 0, none⟩) 2 c7) [(2, 4), (3, 6)]) := hH
  have HP7 : Hid (PoolAt w7 pb gb 10 poolB) := HP6.out.below hb7
  have HB7 : Hid (Below w.heap.size w w7) := HB6.out.trans (hb7.mono HB6.out.size)
  have hw71 : w1.heap.size ≤ w7.heap.size := Nat.le_trans HZ6.out hb7.size
  clear hH hb7 HP6 HB6 HW6 HZ6
  rw [show ([(2, 4), (3, 6)] : List Hit).length = 2 from rfl]
  go_wp2_with fail
  have hA1 : Below w7.heap.size w7 (w7.alloc (.cells #[.slice none 0 0] 69)) := (Below.refl _ _).alloc (Nat.le_refl _) _
  have hz1 : (w7.alloc (.cells #[.slice none 0 0] 69)).heap.size = w7.heap.size + 1 := by simp
  have hWr1 : WrAt (w7.alloc (.cells #[.slice none 0 0] 69)) w7.heap.size w7.heap.size [] none 0 := wr_start w7 _ (Nat.le_refl _)
  have hA2 := hA1.alloc (by simp) (.cells #[.int .i32 1, .int .i32 (-2)] 21)
  have hWr2 := hWr1.alloc (.cells #[.int .i32 1, .int .i32 (-2)] 21)
  have hV2 := two_vec (w7.alloc (.cells #[.slice none 0 0] 69)) 1 (-2) (by omega) (by omega)
  have hz2 : ((w7.alloc (.cells #[.slice none 0 0] 69)).alloc (.cells #[.int .i32 1, .int .i32 (-2)] 21)).heap.size = w7.heap.size + 2 := by simp
  rw [hz1] at hV2
  generalize (w7.alloc (.cells #[.slice none 0 0] 69)).alloc (.cells #[.int .i32 1, .int .i32 (-2)] 21) = w8 at *
  have HP8 : Hid (PoolAt w8 pb gb 10 poolB) := HP7.out.below hA2
  have HH8 : Hid (HitsR w8 w6.heap.size (.slice (some ⟨g7, 0, none⟩) 2 c7) [(2, 4), (3, 6)]) := HH7.out.below hA2
  have HB8 : Hid (Below w.heap.size w w8) := HB7.out.trans (hA2.mono HB7.out.size)
  have HV8 : Hid (VecAt w8 (some ⟨w7.heap.size + 1, 0, none⟩) 2 2 [1, -2]) := hV2
  have HWr8 : Hid (WrAt w8 w7.heap.size w7.heap.size [] none 0) := hWr2
  have hg7l : g7 < w7.heap.size := by
    obtain ⟨g, c, e, _, _, h, _⟩ := HH7.out.at_ 0 (by decide)
    cases e
    exact h
  clear hA1 hA2 hWr1 hWr2 hV2 HP7 HH7 HB7
  refine (vput_at HWr8.out HV8.out (fun q e => ?_) (by omega) (by decide)).mono ?_
  · cases e
    exact ⟨by show w7.heap.size + 1 ≠ w7.heap.size; omega, by simp [Value.ownBlock]⟩
  rintro e w9 ⟨rfl, hQ9⟩
  obtain ⟨a9, c9, hWr9, hK9, _⟩ := hQ9.out
  rw [List.nil_append] at hWr9
  have HWr9 : Hid (WrAt w9 w7.heap.size w7.heap.size (encV [1, -2]) a9 c9) := hWr9
  have hb9 : Below w7.heap.size w8 w9 := hK9.below (by omega) (fun i e => by
    rcases e with e | e
    · omega
    · cases e)
  have HP9 : Hid (PoolAt w9 pb gb 10 poolB) := HP8.out.keeps (Keeps.of_below2 hb9) (show ¬ w7.heap.size ≤ pb by omega) (show ¬ w7.heap.size ≤ gb by omega)
  have HH9 : Hid (HitsR w9 w6.heap.size (.slice (some ⟨g7, 0, none⟩) 2 c7) [(2, 4), (3, 6)]) := HH8.out.keep (Keeps.of_below2 hb9) (fun i e => by cases e; show ¬ w7.heap.size ≤ g7; omega)
  have HB9 : Hid (Below w.heap.size w w9) := HB8.out.trans (hb9.mono (by omega))
  clear hQ9 hWr9 hK9 hb9 HP8 HH8 HB8 HV8 HWr8
  go_wp2_with fail
  refine (wbytes_any HWr9.out (by decide)).mono ?_
  rintro e w10 ⟨hb10, ⟨_, h0⟩ | ⟨g10, cap10, rfl, hg10, hr10, hc10, hgl10⟩⟩
  · exact absurd h0 (by decide)
  have HP10 : Hid (PoolAt w10 pb gb 10 poolB) := HP9.out.below hb10
  have HH10 : Hid (HitsR w10 w6.heap.size (.slice (some ⟨g7, 0, none⟩) 2 c7) [(2, 4), (3, 6)]) := HH9.out.below hb10
  have HB10 : Hid (Below w.heap.size w w10) := HB9.out.trans (hb10.mono HB9.out.size)
  have HR10 : Hid (w10.rangeAt g10 0 (bytesV (encV [1, -2]))) := hr10
  have hs10 := hb10.size
  have hs9 : w7.heap.size ≤ w9.heap.size := by have := HWr9.out.lt; omega
  clear hb10 hr10 HP9 HH9 HB9 HWr9
  go_wp2_with fail
  refine (newreader_some g10 0 cap10 (encV [1, -2]) w10 (by decide) HR10.out).mono ?_
  rintro e w11 ⟨rb, a11, c11, rfl, hrb, hRd, hb11⟩
  have HRd : Hid (RdAt w11 rb (encV [1, -2]) a11 c11 0) := hRd
  have HP11 : Hid (PoolAt w11 pb gb 10 poolB) := HP10.out.below hb11
  have HH11 : Hid (HitsR w11 w6.heap.size (.slice (some ⟨g7, 0, none⟩) 2 c7) [(2, 4), (3, 6)]) := HH10.out.below hb11
  have HB11 : Hid (Below w.heap.size w w11) := HB10.out.trans (hb11.mono HB10.out.size)
  have hs11 := hb11.size
  clear hRd hb11 HP10 HH10 HB10 HR10
  go_wp2_with fail
  refine (vget_at HRd.out).mono ?_
  rw [getB]
  rintro e w12 ⟨v12, rfl, hG⟩
  obtain ⟨a12, c12, hv12, _, hK12⟩ := hG
  have hv12 : VecR w12 w11.heap.size v12 [1, -2] := hv12
  obtain ⟨g12, c12', e12, hv12a, _⟩ := hv12.toAt (fun x hx => by simp at hx; omega)
  obtain rfl := e12
  have hb12 : Below w10.heap.size w11 w12 := hK12.below hs11 (fun i e => by omega)
  have HP12 : Hid (PoolAt w12 pb gb 10 poolB) := HP11.out.keeps (Keeps.of_below2 hb12) (show ¬ w10.heap.size ≤ pb by omega) (show ¬ w10.heap.size ≤ gb by omega)
  have HH12 : Hid (HitsR w12 w6.heap.size (.slice (some ⟨g7, 0, none⟩) 2 c7) [(2, 4), (3, 6)]) := HH11.out.keep (Keeps.of_below2 hb12) (fun i e => by cases e; show ¬ w10.heap.size ≤ g7; omega)
  have HB12 : Hid (Below w.heap.size w w12) := HB11.out.trans (hb12.mono (by have := HB11.out.size; have := HP11.out.gl; omega))
  have HV12 : Hid (VecAt w12 g12 2 c12' [1, -2]) := hv12a
  clear hv12 hv12a hK12 hb12 HP11 HH11 HB11 HRd
  rw [show ([1, -2] : List Int).length = 2 from rfl]
  go_wp2_with fail
  have hVS := vecs_two w12 0 510 (by omega) (by omega)
  have hA := (((Below.refl _ w12).alloc (Nat.le_refl _) (.cells #[.int .i32 0] 21)).alloc (by simp) (.cells #[.int .i32 510] 21)).alloc (by simp; omega) (.cells #[.slice (some ⟨w12.heap.size, 0, none⟩) 1 1, .slice (some ⟨w12.heap.size + 1, 0, none⟩) 1 1] 23)
  generalize ((w12.alloc (.cells #[.int .i32 0] 21)).alloc (.cells #[.int .i32 510] 21)).alloc (.cells #[.slice (some ⟨w12.heap.size, 0, none⟩) 1 1, .slice (some ⟨w12.heap.size + 1, 0, none⟩) 1 1] 23) = w13 at *
  have HQ13 : Hid (PoolAt w13 pb gb 10 poolB ∧ HitsR w13 w6.heap.size (.slice (some ⟨g7, 0, none⟩) 2 c7) [(2, 4), (3, 6)] ∧ VecAt w13 g12 2 c12' [1, -2] ∧ Below w.heap.size w w13) := ⟨HP12.out.below hA, HH12.out.below hA, HV12.out.all hA, HB12.out.trans (hA.mono HB12.out.size)⟩
  have HVS : Hid (VecsAt w13 (some ⟨w12.heap.size + 1 + 1, 0, none⟩) 2 2 [[0], [510]]) := hVS
  clear hVS hA HP12 HH12 HB12 HV12
  have HM : Hid (Calls Tryz.prog 33 #[.int .i64 1, .slice (some ⟨w12.heap.size + 1 + 1, 0, none⟩) 2 2] w13 fun e w' => ∃ gl gs, e = .returned (bookV (some ⟨gl, 0, none⟩) 1 1 (some ⟨gs, 0, none⟩) 1 1) ∧ BookAt w' (some ⟨gl, 0, none⟩) 1 1 (some ⟨gs, 0, none⟩) 1 1 [0] [2] ∧ Below w13.heap.size w13 w') := by
    refine (qmake_at HVS.out (by omega) 1 (by omega)).mono ?_
    rintro e w' ⟨gl, gs, rfl, hT⟩
    refine ⟨gl, gs, rfl, ?_, hT.u⟩
    have := hT.book (fun k => loZ_fit k)
    rw [goodB, lowB, stepB] at this
    exact this
  refine HM.out.mono ?_
  rintro e w14 ⟨gl, gs, rfl, hbk, hb14⟩
  unfold bookV
  have HQ14 : Hid (PoolAt w14 pb gb 10 poolB ∧ HitsR w14 w6.heap.size (.slice (some ⟨g7, 0, none⟩) 2 c7) [(2, 4), (3, 6)] ∧ VecAt w14 g12 2 c12' [1, -2] ∧ Below w.heap.size w w14) := ⟨HQ13.out.1.below hb14, HQ13.out.2.1.below hb14, HQ13.out.2.2.1.all hb14, HQ13.out.2.2.2.trans (hb14.mono HQ13.out.2.2.2.size)⟩
  have HK14 : Hid (BookAt w14 (some ⟨gl, 0, none⟩) 1 1 (some ⟨gs, 0, none⟩) 1 1 [0] [2]) := hbk
  clear hbk hb14 HM HVS HQ13
  go_wp2_with fail
  have hA15 := ((Below.refl _ w14).alloc (Nat.le_refl _) (.cells #[.slice (some ⟨gl, 0, none⟩) 1 1, .slice (some ⟨gs, 0, none⟩) 1 1] 60)).alloc (by simp) (.cells #[.int .i32 511] 21)
  have hV15 := one_vec (w14.alloc (.cells #[.slice (some ⟨gl, 0, none⟩) 1 1, .slice (some ⟨gs, 0, none⟩) 1 1] 60)) 511 (by omega)
  rw [show (w14.alloc (.cells #[.slice (some ⟨gl, 0, none⟩) 1 1, .slice (some ⟨gs, 0, none⟩) 1 1] 60)).heap.size = w14.heap.size + 1 by simp] at hV15
  have q15 : ((w14.alloc (.cells #[.slice (some ⟨gl, 0, none⟩) 1 1, .slice (some ⟨gs, 0, none⟩) 1 1] 60)).alloc (.cells #[.int .i32 511] 21)).cell? ⟨w14.heap.size, 1, none⟩ = some (.slice (some ⟨gs, 0, none⟩) 1 1) := by
    rw [World.cell?_alloc_lt _ _ _ (by simp)]; simp
  generalize (w14.alloc (.cells #[.slice (some ⟨gl, 0, none⟩) 1 1, .slice (some ⟨gs, 0, none⟩) 1 1] 60)).alloc (.cells #[.int .i32 511] 21) = w15 at *
  have HQ15 : Hid (PoolAt w15 pb gb 10 poolB ∧ HitsR w15 w6.heap.size (.slice (some ⟨g7, 0, none⟩) 2 c7) [(2, 4), (3, 6)] ∧ VecAt w15 g12 2 c12' [1, -2] ∧ Below w.heap.size w w15) := ⟨HQ14.out.1.below hA15, HQ14.out.2.1.below hA15, HQ14.out.2.2.1.all hA15, HQ14.out.2.2.2.trans (hA15.mono HQ14.out.2.2.2.size)⟩
  have HK15 : Hid (BookAt w15 (some ⟨gl, 0, none⟩) 1 1 (some ⟨gs, 0, none⟩) 1 1 [0] [2]) := HK14.out.all hA15
  have HV15 : Hid (VecAt w15 (some ⟨w14.heap.size + 1, 0, none⟩) 1 1 [511]) := hV15
  generalize w14.heap.size = r at *
  clear hA15 hV15 HQ14 HK14
  refine (code_at HK15.out HV15.out (by omega) (by omega) (by omega)).mono ?_
  rw [codeB]
  rintro e w16 ⟨v16, rfl, hv16, hb16⟩
  obtain ⟨p16, c16, rfl, hx16, _⟩ := hv16.toAt (fun y hy => by simp at hy; omega)
  have hrl : r < w15.heap.size := World.block_lt_of_cell? w15 _ q15
  have HQ16 : Hid (PoolAt w16 pb gb 10 poolB ∧ HitsR w16 w6.heap.size (.slice (some ⟨g7, 0, none⟩) 2 c7) [(2, 4), (3, 6)] ∧ VecAt w16 g12 2 c12' [1, -2] ∧ Below w.heap.size w w16 ∧ VecAt w16 (some ⟨gs, 0, none⟩) 1 1 [2] ∧ ByAt w16 p16 1 c16 [255] ∧ w16.cell? ⟨r, 1, none⟩ = some (.slice (some ⟨gs, 0, none⟩) 1 1)) :=
    ⟨HQ15.out.1.below hb16, HQ15.out.2.1.below hb16, HQ15.out.2.2.1.all hb16, HQ15.out.2.2.2.trans (hb16.mono HQ15.out.2.2.2.size), HK15.out.step.all hb16, hx16, (hb16.cell (p := ⟨r, 1, none⟩) hrl).trans q15⟩
  clear hv16 hb16 hx16 HQ15 HK15 HV15 q15 hrl
  rw [show ([255] : List Int).length = 1 from rfl]
  go_wp2_with fail
  have hVS := vecs_four w16 0 10 2 12 (by omega) (by omega) (by omega) (by omega)
  have hA := (((((Below.refl _ w16).alloc (Nat.le_refl _) (.cells #[.int .i32 0] 21)).alloc (by simp) (.cells #[.int .i32 10] 21)).alloc (by simp; omega) (.cells #[.int .i32 2] 21)).alloc (by simp; omega) (.cells #[.int .i32 12] 21)).alloc (by simp; omega) (.cells #[.slice (some ⟨w16.heap.size, 0, none⟩) 1 1, .slice (some ⟨w16.heap.size + 1, 0, none⟩) 1 1, .slice (some ⟨w16.heap.size + 1 + 1, 0, none⟩) 1 1, .slice (some ⟨w16.heap.size + 1 + 1 + 1, 0, none⟩) 1 1] 23)
  generalize ((((w16.alloc (.cells #[.int .i32 0] 21)).alloc (.cells #[.int .i32 10] 21)).alloc (.cells #[.int .i32 2] 21)).alloc (.cells #[.int .i32 12] 21)).alloc (.cells #[.slice (some ⟨w16.heap.size, 0, none⟩) 1 1, .slice (some ⟨w16.heap.size + 1, 0, none⟩) 1 1, .slice (some ⟨w16.heap.size + 1 + 1, 0, none⟩) 1 1, .slice (some ⟨w16.heap.size + 1 + 1 + 1, 0, none⟩) 1 1] 23) = w17 at *
  have hrl : r < w16.heap.size := World.block_lt_of_cell? w16 _ HQ16.out.2.2.2.2.2.2
  have HQ17 : Hid (PoolAt w17 pb gb 10 poolB ∧ HitsR w17 w6.heap.size (.slice (some ⟨g7, 0, none⟩) 2 c7) [(2, 4), (3, 6)] ∧ VecAt w17 g12 2 c12' [1, -2] ∧ Below w.heap.size w w17 ∧ VecAt w17 (some ⟨gs, 0, none⟩) 1 1 [2] ∧ ByAt w17 p16 1 c16 [255] ∧ w17.cell? ⟨r, 1, none⟩ = some (.slice (some ⟨gs, 0, none⟩) 1 1)) :=
    ⟨HQ16.out.1.below hA, HQ16.out.2.1.below hA, HQ16.out.2.2.1.all hA, HQ16.out.2.2.2.1.trans (hA.mono HQ16.out.2.2.2.1.size), HQ16.out.2.2.2.2.1.all hA, HQ16.out.2.2.2.2.2.1.all hA, (hA.cell (p := ⟨r, 1, none⟩) hrl).trans HQ16.out.2.2.2.2.2.2⟩
  have HVS : Hid (VecsAt w17 (some ⟨w16.heap.size + 1 + 1 + 1 + 1, 0, none⟩) 4 4 [[0], [10], [2], [12]]) := hVS
  clear hVS hA HQ16 hrl
  refine (middles_at HVS.out (d := 1) fitB (by omega) (by omega) (by omega) 2 3).mono ?_
  rw [midB]
  rintro e w18 ⟨u18, gs18, rfl, hM18, hb18⟩
  have hl18 : gs18.length = 2 := by have := hM18.len; simpa using this.symm
  obtain ⟨bm, cm, rfl, hbm, _, hm0⟩ := hM18.cell 0 (by omega)
  obtain ⟨bm', cm', e, _, _, hm1⟩ := hM18.cell 1 (by omega)
  cases e
  have HE18 : Hid (EndB w w18 pb gb w6.heap.size g7 c7 g12 c12' gs p16 c16 r) := EndB.below ⟨HQ17.out.1, HQ17.out.2.1, HQ17.out.2.2.1, HQ17.out.2.2.2.1, HQ17.out.2.2.2.2.1, HQ17.out.2.2.2.2.2.1, HQ17.out.2.2.2.2.2.2⟩ hb18
  have HM18 : Hid (MidsR w17.heap.size w18 1 (.slice (some ⟨bm, 0, none⟩) 2 cm) gs18 [[1], [11]]) := by rw [hl18] at hM18; exact hM18
  have HHM : Hid (w18.cell? ⟨bm, 0, none⟩ = some (slC 1 (gs18.getD 0 (0, 0))) ∧ w18.cell? ⟨bm, 1, none⟩ = some (slC 1 (gs18.getD 1 (0, 0)))) := ⟨hm0, hm1⟩
  clear hM18 hb18 hm0 hm1 HQ17 HVS
  rw [hl18]
  have hg18 : w18.cell? ⟨0, 0, none⟩ = some errType := (HE18.out.u.cell (p := ⟨0, 0, none⟩) (World.block_lt_of_cell? w _ hg)).trans hg
  go_wp2_with fail
  refine (begun54_true w18 hg18).mono ?_
  rintro e w19 ⟨rfl, hb19⟩
  have HE19 : Hid (EndB w w19 pb gb w6.heap.size g7 c7 g12 c12' gs p16 c16 r) := HE18.out.below hb19
  have HM19 : Hid (MidsR w17.heap.size w19 1 (.slice (some ⟨bm, 0, none⟩) 2 cm) gs18 [[1], [11]]) := HM18.out.below hb19
  clear hb19 HE18 HM18 hg18 HHM
  go_wp2_with fail
  refine (free_at HE19.out.p).mono ?_
  rw [poolB1]
  rintro e w20 ⟨rfl, hb20⟩
  have HE20 : Hid (EndB w w20 pb gb w6.heap.size g7 c7 g12 c12' gs p16 c16 r) := HE19.out.below hb20
  have HM20 : Hid (MidsR w17.heap.size w20 1 (.slice (some ⟨bm, 0, none⟩) 2 cm) gs18 [[1], [11]]) := HM19.out.below hb20
  clear hb20 HE19 HM19
  go_wp2_with fail
  refine (of_at HE20.out.p 5).mono ?_
  rintro e w21 ⟨v21, rfl, hI, hb21⟩
  obtain ⟨p21, c21, rfl, _⟩ := hI.shape
  rw [show (natsI (ofL poolB 5)).length = 3 by rw [natsI_length]; exact poolB2]
  have HE21 : Hid (EndB w w21 pb gb w6.heap.size g7 c7 g12 c12' gs p16 c16 r) := HE20.out.below hb21
  have HM21 : Hid (MidsR w17.heap.size w21 1 (.slice (some ⟨bm, 0, none⟩) 2 cm) gs18 [[1], [11]]) := HM20.out.below hb21
  clear hb21 HE20 HM20 hI
  have f1 : w21.cell? ⟨g7, 0, none⟩ = some (.int .i64 2) ∧ w21.cell? ⟨g7, 2, none⟩ = some (.int .i64 3) := by
    obtain ⟨g, c, e, _, _, _, h0, _⟩ := HE21.out.h.at_ 0 (by decide)
    obtain ⟨g', c', e', _, _, _, h1, _⟩ := HE21.out.h.at_ 1 (by decide)
    cases e; cases e'
    exact ⟨h0, h1⟩
  obtain ⟨b12, o12, rfl, _, f2, _⟩ := HE21.out.v.cell 1 (by omega)
  have f3 := HE21.out.q
  have f4 : w21.cell? ⟨gs, 0, none⟩ = some (.int .i32 2) := by
    obtain ⟨b, o, e, _, h, _⟩ := HE21.out.s.cell 0 (by omega)
    cases e
    exact h
  obtain ⟨b16, o16, rfl, _, f5, _⟩ := HE21.out.c.cell 0 (by omega)
  have f6 : w21.cell? ⟨bm, 0, none⟩ = some (slC 1 (gs18.getD 0 (0, 0))) := by
    obtain ⟨b, c, e, _, _, h⟩ := HM21.out.cell 0 (by omega)
    injection e with e _ _
    injection e with e
    injection e with e
    rw [e]
    exact h
  have f7 : w21.cell? ⟨bm, 1, none⟩ = some (slC 1 (gs18.getD 1 (0, 0))) := by
    obtain ⟨b, c, e, _, _, h⟩ := HM21.out.cell 1 (by omega)
    injection e with e _ _
    injection e with e
    injection e with e
    rw [e]
    exact h
  have f8 := (HM21.out.vec 0 (by omega)).cell2 0 (by omega)
  have f9 := (HM21.out.vec 1 (by omega)).cell2 0 (by omega)
  rw [show (([[1], [11]] : List (List Int)).getD 0 []).getD 0 0 = 1 from rfl] at f8
  rw [show (([[1], [11]] : List (List Int)).getD 1 []).getD 0 0 = 11 from rfl] at f9
  rw [show ([1, -2] : List Int).getD 1 0 = -2 from rfl] at f2
  rw [show ([255] : List Int).getD 0 0 = 255 from rfl, Nat.add_zero] at f5
  unfold slC at f6 f7
  generalize (gs18.getD 0 (0, 0)).1 = m1 at *
  generalize (gs18.getD 1 (0, 0)).1 = m2 at *
  generalize (gs18.getD 0 (0, 0)).2 = k1 at *
  generalize (gs18.getD 1 (0, 0)).2 = k2 at *
  obtain ⟨f1a, f1b⟩ := f1
  go_wp2_with fail
  have hA22 : Below w21.heap.size w21 (w21.alloc (.cells #[.int .i32 9] 21)) := (Below.refl _ _).alloc (Nat.le_refl _) _
  have hv22 := one_vec w21 9 (by omega)
  have hB22 := HE21.out.u.trans (hA22.mono HE21.out.u.size)
  have HN22 : Hid (Calls Tryz.prog 31 #[.slice (some ⟨bm, 0, none⟩) 2 cm, .slice (some ⟨w21.heap.size, 0, none⟩) 1 1] (w21.alloc (.cells #[.int .i32 9] 21)) fun e w' => e = .returned (.int .i64 1) ∧ Below (w21.alloc (.cells #[.int .i32 9] 21)).heap.size (w21.alloc (.cells #[.int .i32 9] 21)) w') := by
    obtain ⟨p, c, e, hat⟩ := (HM21.out.below hA22).toAt (by omega)
    rw [hl18] at e hat
    cases e
    have := near_at hat hv22 (by omega) (fun i hi => by
      have := (HM21.out.fit.getD i (by simpa using hi)).1
      omega)
    rw [nearB] at this
    exact this
  have HB22 : Hid (Below w.heap.size w (w21.alloc (.cells #[.int .i32 9] 21))) := hB22
  clear hA22 hv22 hB22 HE21 HM21 f1a f1b f2 f3 f4 f5 f6 f7 f8 f9
  generalize w21.alloc (.cells #[.int .i32 9] 21) = w22 at *
  refine HN22.out.mono ?_
  rintro e w23 ⟨rfl, hb23⟩
  have HB23 : Hid (Below w.heap.size w w23) := HB22.out.trans (hb23.mono HB22.out.size)
  clear hb23 HB22 HN22
  go_wp2_with fail
  have hT23 := two_two w23 1 2 4 6 (by omega) (by omega) (by omega) (by omega)
  generalize (w23.alloc (.cells #[.int .i32 1, .int .i32 2] 21)).alloc (.cells #[.int .i32 4, .int .i32 6] 21) = w23x at *
  have HS23 : Hid (Calls Tryz.prog 9 #[.int .i64 1, .slice (some ⟨w23.heap.size, 0, none⟩) 2 2, .slice (some ⟨w23.heap.size + 1, 0, none⟩) 2 2] w23x fun e w' => e = .returned (.int .i64 (25)) ∧ Below w23x.heap.size w23x w') := by
    have := score_at 1 hT23.1 hT23.2.1 (by omega)
    rw [scB1] at this
    exact this
  have HB23x : Hid (Below w.heap.size w w23x) := HB23.out.trans (hT23.2.2.mono HB23.out.size)
  clear hT23
  refine HS23.out.mono ?_
  rintro e w24 ⟨rfl, hb24⟩
  have HB24 : Hid (Below w.heap.size w w24) := HB23x.out.trans (hb24.mono HB23x.out.size)
  clear hb24 HB23 HB23x HS23
  go_wp2_with fail
  have hT24 := two_two w24 1 2 4 6 (by omega) (by omega) (by omega) (by omega)
  generalize (w24.alloc (.cells #[.int .i32 1, .int .i32 2] 21)).alloc (.cells #[.int .i32 4, .int .i32 6] 21) = w24x at *
  have HS24 : Hid (Calls Tryz.prog 9 #[.int .i64 2, .slice (some ⟨w24.heap.size, 0, none⟩) 2 2, .slice (some ⟨w24.heap.size + 1, 0, none⟩) 2 2] w24x fun e w' => e = .returned (.int .i64 (-16)) ∧ Below w24x.heap.size w24x w') := by
    have := score_at 2 hT24.1 hT24.2.1 (by omega)
    rw [scB2] at this
    exact this
  have HB24x : Hid (Below w.heap.size w w24x) := HB24.out.trans (hT24.2.2.mono HB24.out.size)
  clear hT24
  refine HS24.out.mono ?_
  rintro e w25 ⟨rfl, hb25⟩
  have HB25 : Hid (Below w.heap.size w w25) := HB24x.out.trans (hb25.mono HB24x.out.size)
  clear hb25 HB24 HB24x HS24
  go_wp2_with fail
  go_ret
  exact ⟨rfl, HB25.out⟩
end Go.Proofs.YteaacodloabdcaaGreatDoor
