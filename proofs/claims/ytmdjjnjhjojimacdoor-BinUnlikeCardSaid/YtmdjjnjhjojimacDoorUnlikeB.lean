import Derived.Test.YtmdjjnjhjojimacDoorUnlikeA
import Derived.Deep.QuietTactic
import Derived.BigQuiet
import Derived.Deep.DeepCutAuto
import Derived.Deep.RegionHeld3
namespace Go.Proofs.YtmdjjnjhjojimacDoor
open Go.RowKit Go.Maps

theorem conv_nil (W : World) : (convert 24 9 (.slice none 0 0)).run Tryd.prog W = .ok (.string ⟨#[]⟩) W := by kernel_rfl
/-- Bytes, as its conversion to a string reads it. -/
theorem wbytes_conv {w : World} {wb base : Nat} {s : List UInt8} {a : Option Addr} {c : Nat} (h : WrAt w wb base s a c) (hbig : s.length ≤ 1000000000) :
    Calls Tryd.prog 7 #[.pointer (some ⟨wb, 0, none⟩)] w fun e w' => ∃ v, e = .returned v ∧ Below w.heap.size w w' ∧ ∀ W, Below w'.heap.size w' W → (convert 24 9 v).run Tryd.prog W = .ok (.string ⟨s.toArray⟩) W := by
  refine (wbytes_any h hbig).mono ?_
  rintro e w' ⟨hb, ⟨rfl, rfl⟩ | ⟨g, cap, rfl, h1, h2, h3, h4⟩⟩
  · exact ⟨_, rfl, hb, fun W _ => conv_nil W⟩
  · refine ⟨_, rfl, hb, fun W hW => conv_bytes g 0 s.length cap s W rfl (fun j v hv => ?_)⟩
    exact (hW.cell (p := ⟨g, 0 + j, none⟩) h4).trans (h2 j v hv)
theorem WrAt.below {w w' : World} {wb base : Nat} {s : List UInt8} {a : Option Addr} {c : Nat} (h : WrAt w wb base s a c) (hb : Below w.heap.size w w') : WrAt w' wb base s a c :=
  h.keeps (S := fun _ => False) (Keeps.of_below hb) (fun e => e) (fun _ _ e => e)
theorem below_step {a W w' : World} (h : Below a.heap.size a W) (hb : Below W.heap.size W w') : Below a.heap.size a w' := h.trans (hb.mono h.size)
theorem below_drew {a W : World} (h : Below a.heap.size a W) : Below a.heap.size a W.drew := ⟨h.os, h.tape, h.output, h.size, h.block⟩
theorem below_drewN {B : Nat} {a W : World} (h : Below B a W) (n : Nat) : Below B a (W.drewN n) := ⟨h.os, h.tape, h.output, h.size, h.block⟩
theorem ext_toList (Y : List UInt8) (n : Nat) : (({ data := Y.toArray } : ByteArray).extract 0 n).toList = Y.take n := by
  rw [ByteArray.toList_eq, ByteArray.data_extract]
  simp
theorem take_step (A B : List Int) (j : Nat) (hA : j < A.length) (hB : j < B.length) (h : A.take j = B.take j) (e : A.getD j 0 = B.getD j 0) : A.take (j + 1) = B.take (j + 1) := by
  rw [List.take_succ_eq_append_getElem hA, List.take_succ_eq_append_getElem hB, h]
  simp [List.getD, List.getElem?_eq_getElem hA, List.getElem?_eq_getElem hB] at e
  rw [e]

set_option maxRecDepth 100000 in
set_option maxHeartbeats 400000 in
theorem binUnlike_true (a1 a2 : Option Addr) (n1 c1 n2 c2 : Nat) (A B : List Int) (w : World) (hA : IntsAt w w.heap.size a1 n1 A) (hB : IntsAt w w.heap.size a2 n2 B) (hc1 : n1 ≤ c1) (hc2 : n2 ≤ c2) (hm1 : c1 ≤ 9223372036854775807) (hm2 : c2 ≤ 9223372036854775807) (hg : w.cell? ⟨0, 0, none⟩ = some errType) :
    Calls Tryd.prog 3 #[.slice a1 n1 c1, .slice a2 n2 c2] w fun e w' => e = .returned (.bool true) ∧ Below w.heap.size w w' := by
  go_enter Tryd.func3, Tryd.ntmps3
  go_wp2_with fail
  refine (begun_true _ hg).mono ?_
  rintro e w1 ⟨rfl, hb1⟩
  clear hg
  go_wp2_with fail
  go_quiet (fail)
  have hbq := below_drewN hb1 nq
  have hAq := hA.below hbq
  have hBq := hB.below hbq
  clear hA hB hb1
  generalize w1.drewN nq = wq at hbq hAq hBq ⊢
  have hk1 : (min (n1 : Int) 8).toNat ≤ n1 ∧ (min (n1 : Int) 8).toNat ≤ 8 := by omega
  have hk2 : (min (n2 : Int) 8).toNat ≤ n2 ∧ (min (n2 : Int) 8).toNat ≤ 8 := by omega
  generalize (min (n1 : Int) 8).toNat = k1 at hk1 ⊢
  generalize (min (n2 : Int) 8).toNat = k2 at hk2 ⊢
  have hA1 := hAq.head k1 hk1.1
  have hB1 := hBq.head k2 hk2.1
  generalize A.take k1 = A' at hA1
  generalize B.take k2 = B' at hB1
  clear hAq hBq
  go_wp2_with fail
  have hbs := hbq.size
  have hbW : Below w.heap.size w ((wq.alloc (.cells #[.slice none 0 0] 26)).alloc (.cells #[.slice none 0 0] 26)) := (hbq.alloc hbs _).alloc (by simp; omega) _
  have hv2 : WrAt ((wq.alloc (.cells #[.slice none 0 0] 26)).alloc (.cells #[.slice none 0 0] 26)) wq.heap.size (wq.heap.size + 2) [] none 0 :=
    ⟨by simp, by simp, World.ownsRow_nil _ _ _ _, by simp, by simp [Value.ownBlock]⟩
  have hw2 : WrAt ((wq.alloc (.cells #[.slice none 0 0] 26)).alloc (.cells #[.slice none 0 0] 26)) (wq.heap.size + 1) (wq.heap.size + 2) [] none 0 :=
    ⟨by simp, by simp, World.ownsRow_nil _ _ _ _, by simp, by simp [Value.ownBlock]⟩
  have hA2 := hA1.below ((((Below.refl _ wq).alloc (Nat.le_refl _) (.cells #[.slice none 0 0] 26)).alloc (by simp) (.cells #[.slice none 0 0] 26)).mono hbs)
  have hB2 := hB1.below ((((Below.refl _ wq).alloc (Nat.le_refl _) (.cells #[.slice none 0 0] 26)).alloc (by simp) (.cells #[.slice none 0 0] 26)).mono hbs)
  have hs2 : ((wq.alloc (.cells #[.slice none 0 0] 26)).alloc (.cells #[.slice none 0 0] 26)).heap.size = wq.heap.size + 2 := by simp
  have HS2 : Hid (((wq.alloc (.cells #[.slice none 0 0] 26)).alloc (.cells #[.slice none 0 0] 26)).heap.size = wq.heap.size + 2) := hs2
  clear hs2 hA1 hB1
  generalize (wq.alloc (.cells #[.slice none 0 0] 26)).alloc (.cells #[.slice none 0 0] 26) = w2 at hbW hv2 hw2 hA2 hB2 HS2 ⊢
  refine (int_ints hv2 a1 k1 c1 A' hA2 (by omega) (by omega) (by simp; omega)).mono ?_
  rintro e w3 ⟨av, cv, rfl, hv3, hk3⟩
  rw [List.nil_append] at hv3
  have hb23 : Below w.heap.size w2 w3 := hk3.below hbW.size (fun i e => by
    rcases e with e | e
    · omega
    · cases e)
  have hw3 := hw2.keeps hk3 (by rintro (e | e); omega; cases e) (fun g e => by cases e)
  have hA3 := hA2.below hb23
  have hB3 := hB2.below hb23
  have hbw3 : Below w.heap.size w w3 := hbW.trans hb23
  clear hv2 hw2 hA2 hB2 hk3 hb23 hbW
  go_wp2_with fail
  refine (int_ints hw3 a2 k2 c2 B' hB3 (by omega) (by omega) (by simp; omega)).mono ?_
  rintro e w4 ⟨aw, cw, rfl, hw4, hk4⟩
  rw [List.nil_append] at hw4
  have hb34 : Below w.heap.size w3 w4 := hk4.below hbw3.size (fun i e => by
    rcases e with e | e
    · omega
    · cases e)
  have hv4 := hv3.keeps hk4 (by rintro (e | e); omega; cases e) (fun g e => by
    have := (hv3.own e).1
    rintro (x | x)
    · omega
    · cases x)
  have hA4 := hA3.below hb34
  have hB4 := hB3.below hb34
  have hbw4 : Below w.heap.size w w4 := hbw3.trans hb34
  clear hv3 hw3 hA3 hB3 hk4 hb34 hbw3
  have hX : (A'.flatMap encInt).length ≤ 80 := Nat.le_trans (flat_len A' 8 (by have := hA4.len; omega)) (by omega)
  have hY : (B'.flatMap encInt).length ≤ 80 := Nat.le_trans (flat_len B' 8 (by have := hB4.len; omega)) (by omega)
  generalize hXe : A'.flatMap encInt = X at hv4 hX
  generalize hYe : B'.flatMap encInt = Y at hw4 hY
  have HX : Hid (A'.flatMap encInt = X) := hXe
  have HY : Hid (B'.flatMap encInt = Y) := hYe
  clear hXe hYe
  generalize wq.heap.size + 1 = wb at hw4 ⊢
  generalize wq.heap.size = vb at hv4 ⊢
  go_wp2_with fail
  go_cut [8, 9] (fun s8 s9 wx => s8 = .string ⟨X.toArray⟩ ∧ s9 = .string ⟨Y.toArray⟩ ∧ Below w4.heap.size w4 wx)
  case first =>
    go_region_held (fun w' => Below w4.heap.size w4 w') (first | assumption | exact Below.refl _ _ | exact below_drew (Below.refl _ _) | exact below_drew ‹_› | exact below_step ‹_› ‹_›)
      (first
        | (go_at_call 7; have hold := HC5.out; clear hold; refine (wbytes_conv (hw4.below (by first | assumption | exact below_drew (Below.refl _ _))) (by omega)).mono ?_; rintro e w6 ⟨v6, rfl, hb6, hcv6⟩; have hcv6' := hcv6 w6 (Below.refl _ _); have hcv5'' := HC5.out w6 hb6; clear hcv6)
        | (go_at_call 7; refine (wbytes_conv (hv4.below (by first | assumption | exact below_drew (Below.refl _ _))) (by omega)).mono ?_; rintro e w5 ⟨v5, rfl, hb5, hcv5⟩; have hcv5' := hcv5 w5 (Below.refl _ _); have HC5 : Hid (∀ W, Below w5.heap.size w5 W → (convert 24 9 v5).run Tryd.prog W = .ok (.string ⟨X.toArray⟩) W) := hcv5; clear hcv5))
    all_goals
      go_wp2_with fail
      go_meet
      exact ⟨rfl, rfl, by first | assumption | exact below_step ‹_› ‹_›⟩
  case rest =>
  obtain ⟨rfl, rfl, hbc⟩ := hcut
  have hA5 := hA4.below (hbc.mono hbw4.size)
  have hB5 := hB4.below (hbc.mono hbw4.size)
  have hbw5 : Below w.heap.size w wc := hbw4.trans (hbc.mono hbw4.size)
  clear hA4 hB4 hbc hbw4 hv4 hw4
  have HA : Hid (A'.length = k1 ∧ B'.length = k2) := ⟨hA5.len, hB5.len⟩
  have HF : Hid (AllFit A' ∧ AllFit B') := ⟨hA5.fit, hB5.fit⟩
  go_wp2_with fail
  go_loopw [10, 11] (fun s i wr => ∃ (j nq : Nat) (b : Bool), wc.drewN nq = wr ∧ j ≤ k1 ∧ i = .int .i64 j ∧ s = .bool b ∧ (b = true → k1 = k2 ∧ A'.take j = B'.take j) ∧ (b = false → A' ≠ B')) (fun _ i _ => k1 - (RowKit.intOf i).toNat)
  case atStart =>
    refine ⟨0, 0, _, rfl, Nat.zero_le _, rfl, rfl, fun h => ⟨Int.ofNat_inj.1 (by simpa using h), rfl⟩, fun h e => ?_⟩
    have h1 : ¬ (k1 : Int) = k2 := by simpa using h
    have h2 := HA.out
    rw [e] at h2
    omega
  case round =>
    obtain ⟨j, nq, b, rfl, hj, rfl, rfl, ht, hf⟩ := hrel
    have hbr : Below w.heap.size w (wc.drewN nq) := below_drewN hbw5 nq
    cases b with
    | false =>
      have hne := hf rfl
      have hXY : X ≠ Y := fun e => hne (flat_inj A' B' HF.out.1 HF.out.2 (by rw [HX.out, HY.out, e]))
      have q1 : (X == Y) = false := by simpa using hXY
      have HN : Hid (A' ≠ B') := hne
      clear ht hf hne hXY
      by_cases hk : k1 = k2
      · subst hk
        by_cases hl : (Y.length : Int) < X.length
        · go_wp2
          go_ret
          exact ⟨rfl, hbr⟩
        · have q2 : ((({ data := Y.toArray } : ByteArray).extract 0 X.length).toList == X) = false := by
            rw [beq_eq_false_iff_ne, ext_toList]
            intro e
            have h1 := List.take_append_drop X.length Y
            rw [e] at h1
            refine HN.out (flat_prefix A' B' (Y.drop X.length) HF.out.1 HF.out.2 (by have := HA.out; omega) ?_)
            rw [HX.out, HY.out, h1]
          go_wp2
          go_ret
          exact ⟨rfl, hbr⟩
      · have hk' : ((k1 : Int) != (k2 : Int)) = true := by simp; omega
        go_wp2
        go_ret
        exact ⟨rfl, hbr⟩
    | true =>
      obtain ⟨rfl, htk⟩ := ht rfl
      have HT : Hid (A'.take j = B'.take j) := htk
      clear ht hf htk
      by_cases hlt : j < k1
      · obtain ⟨b1, o1, rfl, hcell1⟩ := hA5.cell j hlt
        obtain ⟨b2, o2, rfl, hcell2⟩ := hB5.cell j hlt
        have HV : Hid (∀ e : A'.getD j 0 = B'.getD j 0, A'.take (j + 1) = B'.take (j + 1)) := fun e => take_step A' B' j (by have := HA.out; omega) (by have := HA.out; omega) HT.out e
        have HW : Hid (A'.getD j 0 ≠ B'.getD j 0 → A' ≠ B') := fun h e => h (by rw [e])
        generalize A'.getD j 0 = x at hcell1 HV HW
        generalize B'.getD j 0 = y at hcell2 HV HW
        go_wp2_with fail
        go_quiet (fail)
        go_wp2_with fail
        go_roundw
        case rel => exact ⟨j + 1, _, _, rfl, by omega, by go_num, rfl, fun h => ⟨by trivial, HV.out (by simpa using h)⟩, fun h => HW.out (by simpa using h)⟩
        case measure => simp [RowKit.intOf]; omega
      · have hAB : A' = B' := by
          have h := HT.out
          have h2 := HA.out
          rwa [List.take_of_length_le (by omega), List.take_of_length_le (by omega)] at h
        have hXY : X = Y := by rw [← HX.out, ← HY.out, hAB]
        subst hXY
        clear hAB
        go_wp2
        go_ret
        exact ⟨rfl, hbr⟩
end Go.Proofs.YtmdjjnjhjojimacDoor
