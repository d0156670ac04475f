import Derived.Test.YtmdjjnjhjojimabDoorTextA
namespace Go.Proofs.YtmdjjnjhjojimabDoor
open Go.RowKit Go.Maps

set_option maxRecDepth 100000 in
set_option maxHeartbeats 4000000 in
theorem binText_true (st : ByteArray) (most more : Int) (w : World) (h0 : -9223372036854775808 ≤ more) (h1 : more ≤ 9223372036854775807) (hg : w.cell? ⟨0, 0, none⟩ = some errType) :
    Calls Tryd.prog 8 #[.string st, .int .i64 most, .int .i64 more] w fun e w' => e = .returned (.bool true) ∧ Below w.heap.size w w' := by
  have hN1 := rem_any most 120 (by omega)
  go_enter Tryd.func8, Tryd.ntmps8
  go_wp2_with fail
  refine (begun_true _ hg).mono ?_
  rintro e w1 ⟨rfl, hb1⟩
  have hbs1 := hb1.size
  clear hg
  go_wp2_with fail
  refine (textN st w1).mono ?_
  rintro e w1' ⟨u, rfl, hu, hw⟩
  obtain rfl := hw.symm
  clear hw
  go_wp2_with fail
  have hq : 0 ≤ (most.tmod 120 + 120) % 120 ∧ (most.tmod 120 + 120) % 120 < 120 := by omega
  clear hN1
  generalize (most.tmod 120 + 120) % 120 = q at hq ⊢
  have hwA : WrAt (w1.alloc (.cells #[.slice none 0 0] 59)) w1.heap.size (w1.heap.size + 1) [] none 0 := by
    refine ⟨?_, ?_, World.ownsRow_nil _ _ _ _, by simp, by simp [Value.ownBlock]⟩
    · simp
    · simp
  have hbA : Below w.heap.size w (w1.alloc (.cells #[.slice none 0 0] 59)) := hb1.alloc hb1.size _
  generalize w1.alloc (.cells #[.slice none 0 0] 59) = wA at hwA hbA ⊢
  clear hb1
  refine (text_any hwA (by omega) u (by simp; omega)).mono ?_
  rintro e w2 ⟨a2, c2, rfl, hw2, hk2⟩
  rw [List.nil_append] at hw2
  have hbs2 := hk2.size
  have hb2 : Below w.heap.size w w2 := hbA.trans (hk2.below hbA.size (fun i e => by omega))
  have hul : u.data.toList.length = u.size := by simp
  have hl2 : (encInt (u.size : Int) ++ u.data.toList).length ≤ 200 := by
    rw [List.length_append, encInt_length, hul]; have := wid_le (u.size : Int); omega
  obtain ⟨s2, hs2⟩ : ∃ s2, s2 = encInt (u.size : Int) ++ u.data.toList := ⟨_, rfl⟩
  have H2 : Hid (s2 = encInt (u.size : Int) ++ u.data.toList) := hs2
  rw [← hs2] at hw2 hl2
  clear hs2 hwA hbA hk2
  go_wp2_with fail
  have hwB := hw2.alloc (.cells #[.int .i64 more] 2)
  have hnB : (w2.alloc (.cells #[.int .i64 more] 2)).rangeAt w2.heap.size 0 ([more].map (Value.int .i64)) := by
    intro j v hv
    rw [cell_of_row _ _ (0 + j) _ 2 (0, 0) (heap_alloc_last w2 _)]
    simpa using hv
  have hbB : Below w.heap.size w (w2.alloc (.cells #[.int .i64 more] 2)) := hb2.alloc hb2.size _
  have hne : (Value.slice a2 s2.length c2).ownBlock ≠ some w2.heap.size := fun e => by have := (hw2.own e).2; omega
  have hnw : w2.heap.size ≠ w1.heap.size := by have := hw2.lt; omega
  have HO : Hid (∀ g, (Value.slice a2 s2.length c2).ownBlock = some g → w1.heap.size + 1 ≤ g) := fun g e => (hw2.own e).1
  generalize w2.alloc (.cells #[.int .i64 more] 2) = wB at hwB hnB hbB ⊢
  refine (int_any hwB w2.heap.size 0 1 [more] hnB hnw hne (by intro y hy; simp at hy; omega) (by simp; omega)).mono ?_
  rintro e w3 ⟨a3, c3, rfl, hw3, hk3, _⟩
  have hb3 : Below w.heap.size w w3 := hbB.trans (hk3.below hbB.size (fun i e => by
    rcases e with e | e
    · omega
    · have := HO.out i e; omega))
  rw [show s2 ++ [more].flatMap encInt = encInt (u.size : Int) ++ (u.data.toList ++ encInt more) from by rw [H2.out]; simp] at hw3
  have hl3 : (encInt (u.size : Int) ++ (u.data.toList ++ encInt more)).length ≤ 1000 := by
    rw [List.length_append, List.length_append, encInt_length, encInt_length, hul]; have := wid_le (u.size : Int); have := wid_le more; omega
  clear hwB hnB hbB hk3 hw2 hb2 HO hne hl2
  obtain ⟨s3, hs3⟩ : ∃ s3, s3 = encInt (u.size : Int) ++ (u.data.toList ++ encInt more) := ⟨_, rfl⟩
  have H3 : Hid (s3 = encInt (u.size : Int) ++ (u.data.toList ++ encInt more)) := hs3
  rw [← hs3] at hw3 hl3
  clear hs3 H2
  go_wp2_with fail
  refine (wbytes_any hw3 (by omega)).mono ?_
  rintro e w4 ⟨hb4, ⟨_, x⟩ | ⟨g4, c4, rfl, r1, hr4, r3, r4⟩⟩
  · rw [H3.out] at x
    simp [encInt] at x
  have hbw4 : Below w.heap.size w w4 := hb3.trans (hb4.mono hb3.size)
  clear hw3 hb3 hb4
  go_wp2_with fail
  refine (newreader_some g4 0 c4 s3 w4 (by omega) hr4).mono ?_
  rintro e w5 ⟨rb, a5, c5, rfl, t1, hrd, hb5⟩
  have hbw5 : Below w.heap.size w w5 := hbw4.trans (hb5.mono hbw4.size)
  have hrb : w.heap.size ≤ rb := by have := hbw4.size; omega
  have hs3 : s3 = encInt (u.data.toList.length : Int) ++ (u.data.toList ++ encInt more) := by rw [hul]; exact H3.out
  clear hbw4 hb5 hr4
  by_cases hm : q < (u.size : Int)
  · go_wp2_with fail
    refine (rtext_bad' (most := q) hrd hs3 (by omega) (by omega)).mono ?_
    rintro e w6 ⟨a6, c6, rfl, hrd6, hk6⟩
    have hbw6 : Below w.heap.size w w6 := hbw5.trans (hk6.below hbw5.size (fun i e => by omega))
    clear hrd hs3
    go_wp2_with fail
    refine (rerr_cell rb 1 w6 hrd6.c1).mono ?_
    rintro e w7 ⟨rfl, hw⟩
    obtain rfl := hw.symm
    clear hw
    go_wp2_with fail
    refine (rint_err hrd6 (by omega)).mono ?_
    rintro e w7 ⟨rfl, hw⟩
    obtain rfl := hw.symm
    clear hw
    go_wp2_with fail
    refine (rend_at hrd6).mono ?_
    rintro e w7 ⟨rfl, hw⟩
    obtain rfl := hw.symm
    clear hw
    go_wp2
    go_ret
    exact ⟨rfl, hbw6⟩
  · go_wp2_with fail
    have hcall := rtext_yes' (most := q) hrd hs3 (by omega) (by omega)
    rw [show (⟨u.data.toList.toArray⟩ : ByteArray) = u from by simp] at hcall
    refine hcall.mono ?_
    rintro e w6 ⟨a6, c6, rfl, hrd6, hk6⟩
    have hbw6 : Below w.heap.size w w6 := hbw5.trans (hk6.below hbw5.size (fun i e => by omega))
    clear hrd hs3 hcall
    go_wp2_with fail
    refine (rint_enc hrd6 h0 h1).mono ?_
    rintro e w7 ⟨a7, c7, rfl, hrd7, hk7⟩
    have hbw7 : Below w.heap.size w w7 := hbw6.trans (hk7.below hbw6.size (fun i e => by omega))
    go_wp2_with fail
    refine (rend_at hrd7).mono ?_
    rintro e w8 ⟨rfl, hw⟩
    obtain rfl := hw.symm
    clear hw
    go_wp2
    go_ret
    exact ⟨rfl, hbw7⟩
end Go.Proofs.YtmdjjnjhjojimabDoor
