import Derived.Test.YtmdjjnjhjojimabDoorCutA
namespace Go.Proofs.YtmdjjnjhjojimabDoor
open Go.RowKit Go.Maps

theorem RdAt.below {w w' : World} {rb : Nat} {s : List UInt8} {a : Option Addr} {c : Nat} {err : Int} (h : RdAt w rb s a c err) (hb : Below w.heap.size w w') : RdAt w' rb s a c err := {
  c0 := (hb.cell (p := ⟨rb, 0, none⟩) h.lt).trans h.c0
  c1 := (hb.cell (p := ⟨rb, 1, none⟩) h.lt).trans h.c1
  f := fun o => (hb.frozen (p := ⟨rb, o, none⟩) h.lt).trans (h.f o)
  sh := by
    rcases h.sh with h0 | ⟨g, o, e, hne, hr⟩
    · exact Or.inl h0
    · exact Or.inr ⟨g, o, e, hne, fun j v hv => (hb.cell (p := ⟨g, o + j, none⟩) (World.block_lt_of_cell? _ _ (hr j v hv))).trans (hr j v hv)⟩
  hc := h.hc
  hl := h.hl }
theorem newreader_len (b o c n : Nat) (s : List UInt8) (w : World) (hn : s.length = n) (hbig : n ≤ 1000000000) (hr : w.rangeAt b o (bytesV s)) :
    Calls Tryd.prog 30 #[.slice (some ⟨b, o, none⟩) n c] w fun e w' => ∃ rb a' c', e = .returned (.pointer (some ⟨rb, 0, none⟩)) ∧ w.heap.size ≤ rb ∧ RdAt w' rb s a' c' 0 ∧ Below w.heap.size w w' := by
  subst hn
  exact newreader_some b o c s w hbig hr
theorem flat_nil {A : List Int} (h : A.flatMap encInt = []) : A = [] := by
  cases A with
  | nil => rfl
  | cons x r => simp [encInt] at h

set_option maxRecDepth 100000 in
set_option maxHeartbeats 1000000 in
theorem binCut_true (a1 : Option Addr) (n1 c1 : Nat) (cut : Int) (A : List Int) (w : World) (hA : IntsAt w w.heap.size a1 n1 A) (hc1 : n1 ≤ c1) (hm1 : c1 ≤ 9223372036854775807) (hg : w.cell? ⟨0, 0, none⟩ = some errType) :
    Calls Tryd.prog 7 #[.slice a1 n1 c1, .int .i64 cut] w fun e w' => e = .returned (.bool true) ∧ Below w.heap.size w w' := by
  go_enter Tryd.func7, Tryd.ntmps7
  go_wp2_with fail
  refine (begun_true _ hg).mono ?_
  rintro e w1 ⟨rfl, hb1⟩
  clear hg
  have hA1 := hA.below hb1
  have hbs := hb1.size
  clear hA
  go_wp2_with fail
  have hk1 : (min (n1 : Int) 15).toNat ≤ n1 ∧ (min (n1 : Int) 15).toNat ≤ 15 := by omega
  generalize (min (n1 : Int) 15).toNat = k1 at hk1 ⊢
  have hA2 := (hA1.head k1 hk1.1).below (((Below.refl _ w1).alloc (Nat.le_refl _) (.cells #[.slice none 0 0] 59)).mono hbs)
  generalize A.take k1 = A' at hA2
  clear hA1
  have hbW : Below w.heap.size w (w1.alloc (.cells #[.slice none 0 0] 59)) := hb1.alloc hbs _
  have hv2 : WrAt (w1.alloc (.cells #[.slice none 0 0] 59)) w1.heap.size (w1.heap.size + 1) [] none 0 :=
    ⟨by simp, by simp, World.ownsRow_nil _ _ _ _, by simp, by simp [Value.ownBlock]⟩
  generalize w1.alloc (.cells #[.slice none 0 0] 59) = w2 at hbW hv2 hA2 ⊢
  refine (int_ints hv2 a1 k1 c1 A' hA2 (by omega) (by omega) (by simp; omega)).mono ?_
  rintro e w3 ⟨av, cv, rfl, hv3, hk3⟩
  rw [List.nil_append] at hv3
  have hb23 : Below w.heap.size w2 w3 := hk3.below hbW.size (fun i e => by
    rcases e with e | e
    · omega
    · cases e)
  have hA3 := hA2.below hb23
  have hbw3 : Below w.heap.size w w3 := hbW.trans hb23
  clear hv2 hA2 hk3 hb23 hbW hb1
  have hX : (A'.flatMap encInt).length ≤ 150 := Nat.le_trans (flat_len A' 15 (by have := hA3.len; omega)) (by omega)
  generalize hXe : A'.flatMap encInt = S at hv3 hX
  have HS : Hid (S = A'.flatMap encInt) := hXe.symm
  clear hXe
  go_wp2_with fail
  refine (wbytes_any hv3 (by omega)).mono ?_
  clear hv3
  by_cases hS0 : S = []
  · subst hS0
    have hA0 : A' = [] := flat_nil HS.out.symm
    have hk0 : k1 = 0 := by have := hA3.len; rw [hA0] at this; simpa using this.symm
    subst hk0
    clear hX HS
    rintro e w4 ⟨hb4, ⟨rfl, _⟩ | ⟨g4, c4, rfl, r1, hr4, r3, r4⟩⟩
    · have hbw4 : Below w.heap.size w w4 := hbw3.trans (hb4.mono hbw3.size)
      go_wp2_with fail
      refine (newreader_nil 0 w4).mono ?_
      rintro e w5 ⟨rb, a5, c5, rfl, t1, hrd, hb5⟩
      have hbw5 : Below w.heap.size w w5 := hbw4.trans (hb5.mono hbw4.size)
      go_wp2_with fail
      refine (rend_at hrd).mono ?_
      rintro e w6 ⟨rfl, hw⟩
      obtain rfl := hw.symm
      clear hw
      go_wp2
      go_ret
      exact ⟨rfl, hbw5⟩
    · have hbw4 : Below w.heap.size w w4 := hbw3.trans (hb4.mono hbw3.size)
      go_wp2_with fail
      refine (newreader_some g4 0 c4 [] w4 (by decide) hr4).mono ?_
      rintro e w5 ⟨rb, a5, c5, rfl, t1, hrd, hb5⟩
      have hbw5 : Below w.heap.size w w5 := hbw4.trans (hb5.mono hbw4.size)
      go_wp2_with fail
      refine (rend_at hrd).mono ?_
      rintro e w6 ⟨rfl, hw⟩
      obtain rfl := hw.symm
      clear hw
      go_wp2
      go_ret
      exact ⟨rfl, hbw5⟩
  · rintro e w4 ⟨hb4, ⟨_, x⟩ | ⟨g4, c4, rfl, r1, hr4, r3, r4⟩⟩
    · exact absurd x hS0
    have hl0 : 0 < S.length := List.length_pos_iff.2 hS0
    have hbw4 : Below w.heap.size w w4 := hbw3.trans (hb4.mono hbw3.size)
    have hA4 := hA3.below (hb4.mono hbw3.size)
    have hz : ((S.length : Int) == 0) = false := by simp; omega
    have hN1 := rem_any cut S.length (by omega)
    clear hS0 hb4 hA3 hbw3
    obtain ⟨L, hL⟩ : ∃ L, S.length = L := ⟨_, rfl⟩
    rw [hL] at hl0 hX hz hN1 r3 ⊢
    have HL : Hid (S.length = L) := hL
    clear hL
    have hq0 : 0 ≤ cut.tmod (L : Int) % (L : Int) := Int.emod_nonneg _ (by omega)
    have hq1 : cut.tmod (L : Int) % (L : Int) < (L : Int) := Int.emod_lt_of_pos _ (by omega)
    go_wp2_with fail
    clear hN1
    obtain ⟨ct, hq⟩ : ∃ ct : Nat, cut.tmod (L : Int) % (L : Int) = (ct : Int) := ⟨(cut.tmod (L : Int) % (L : Int)).toNat, by omega⟩
    have HQ : Hid (cut.tmod (L : Int) % (L : Int) = (ct : Int)) := hq
    have hq2 : (cut.tmod (L : Int) + (L : Int)) % (L : Int) = (ct : Int) := by rw [← hq]; simp
    rw [hq] at hq1
    rw [hq, hq2]
    clear hq hq0 hq2 HQ
    have hct : ct < L := by omega
    clear hq1
    rw [Int.toNat_natCast]
    have hr5 : w4.rangeAt g4 0 (bytesV (S.take ct)) := by
      intro j v hv
      refine hr4 j v ?_
      unfold bytesV at hv ⊢
      rw [List.map_take, List.getElem?_take] at hv
      split at hv
      · exact hv
      · cases hv
    refine (newreader_len g4 0 c4 ct (S.take ct) w4 (by rw [List.length_take, HL.out]; omega) (by omega) hr5).mono ?_
    rintro e w5 ⟨rb, a5, c5, rfl, t1, hrd, hb5⟩
    have hbw5 : Below w.heap.size w w5 := hbw4.trans (hb5.mono hbw4.size)
    have hA5 := hA4.below (hb5.mono hbw4.size)
    have hrb : w.heap.size ≤ rb := by have := hbw4.size; omega
    clear hr4 hr5 hA4 hbw4 hb5 t1 r1 r4
    have HA : Hid (A'.length = k1) := hA5.len
    have HF : Hid (AllFit A') := hA5.fit
    go_wp2_with fail
    go_loopw [9, 51] (fun at_ ix wr => ∃ (j : Nat) (ar : Option Addr) (cr : Nat), j ≤ k1 ∧ ix = .int .i64 j ∧ at_ = .int .i64 ((flat A' j).length : Nat) ∧ RdAt wr rb (cutSt S (flat A' j).length ct).1 ar cr (cutSt S (flat A' j).length ct).2 ∧ IntsAt wr w.heap.size a1 k1 A' ∧ Below w.heap.size w wr) (fun _ ix _ => k1 - (RowKit.intOf ix).toNat)
    case atStart =>
      refine ⟨0, a5, c5, Nat.zero_le _, rfl, rfl, ?_, hA5, hbw5⟩
      have : cutSt S (flat A' 0).length ct = (S.take ct, 0) := by simp [cutSt, flat]
      rw [this]
      exact hrd
    case round =>
      obtain ⟨j, ar, cr, hj, rfl, rfl, hrdr, hAr, hbr⟩ := hrel
      clear hrd hA5 hbw5
      by_cases hlt : j < k1
      · obtain ⟨b1, o1, rfl, hcell⟩ := hAr.cell j hlt
        have hst := cut_step A' S j ct (by have := HA.out; omega) HF.out HS.out
        have hsl := flat_succ A' j (by have := HA.out; omega)
        have hxb : -9223372036854775808 ≤ A'.getD j 0 ∧ A'.getD j 0 ≤ 9223372036854775807 := by
          have h9 : j < A'.length := by have := HA.out; omega
          have := HF.out A'[j] (List.getElem_mem h9)
          simpa [List.getD, List.getElem?_eq_getElem h9] using this
        have hfl : (flat A' j).length ≤ 150 := Nat.le_trans (flat_len (A'.take j) 15 (by rw [List.length_take]; omega)) (by omega)
        have hln : (flat A' (j + 1)).length = (flat A' j).length + (1 + wid (A'.getD j 0)) := by rw [hsl, List.length_append, encInt_length]
        have hwl := wid_le (A'.getD j 0)
        have HST := hst
        clear hsl hst
        generalize A'.getD j 0 = x at hcell HST hxb hln hwl
        have HLN : Hid ((flat A' (j + 1)).length = (flat A' j).length + (1 + wid x)) := hln
        have HSS : Hid (rdInt (cutSt S (flat A' j).length ct).1 (cutSt S (flat A' j).length ct).2 = if (flat A' (j + 1)).length ≤ ct then (x, (cutSt S (flat A' (j + 1)).length ct).1, 0) else (0, [], 1)) := HST
        clear hln HST
        go_wp2_with fail
        refine (refInt_any x wr hxb.1 hxb.2).mono ?_
        rintro e w6 ⟨g6, c6, rfl, _, hb6⟩
        have hrd6 := hrdr.below hb6
        have hA6 := hAr.below (hb6.mono hbr.size)
        have hbw6 : Below w.heap.size w w6 := hbr.trans (hb6.mono hbr.size)
        have hcell6 : w6.cell? ⟨b1, o1 + j, none⟩ = some (.int .i64 x) := (hb6.cell (p := ⟨b1, o1 + j, none⟩) (World.block_lt_of_cell? _ _ hcell)).trans hcell
        clear hrdr hAr hbr hb6 hcell
        go_wp2_with fail
        have hcall := rint_any hrd6
        rw [HSS.out] at hcall
        by_cases hle : (flat A' (j + 1)).length ≤ ct
        · rw [if_pos hle] at hcall
          refine hcall.mono ?_
          rintro e w7 ⟨a7, c7, rfl, hrd7, hk7, _⟩
          have hA7 := hA6.below (hk7.below hbw6.size (fun i e => by omega))
          have hbw7 : Below w.heap.size w w7 := hbw6.trans (hk7.below hbw6.size (fun i e => by omega))
          have hb1l : b1 < w.heap.size := by
            rcases hA6.at_ with h9 | ⟨b, o, e, h9, _⟩
            · omega
            · cases e; exact h9
          have hcell7 : w7.cell? ⟨b1, o1 + j, none⟩ = some (.int .i64 x) := (hk7.cell (p := ⟨b1, o1 + j, none⟩) (World.block_lt_of_cell? _ _ hcell6) (by show ¬ b1 = rb; omega)).trans hcell6
          have HR : Hid (RdAt w7 rb (cutSt S (flat A' (j + 1)).length ct).1 a7 c7 (cutSt S (flat A' (j + 1)).length ct).2) := by
            have e2 : (cutSt S (flat A' (j + 1)).length ct).2 = 0 := by unfold cutSt; rw [if_pos hle]
            show RdAt _ _ _ _ _ _
            rw [e2]; exact hrd7
          have hc7 := hrd7.c1
          have hle' : ((flat A' j).length : Int) + (1 + (wid x : Int)) ≤ (ct : Int) := by have := HLN.out; omega
          clear hcall hrd6 hA6 hbw6 hk7 hcell6 hle hrd7
          generalize (flat A' j).length = p at HLN HSS hfl hle' ⊢
          go_wp2_with (go_at_call 23; refine (rerr_cell rb 0 _ hc7).mono ?_; rintro e w8 ⟨rfl, hw⟩; obtain rfl := hw.symm; clear hw)
          go_roundw
          case rel => exact ⟨j + 1, a7, c7, by omega, by go_num, by rw [HLN.out]; go_num, HR.out, hA7, hbw7⟩
          case measure => simp [RowKit.intOf]; omega
        · rw [if_neg hle] at hcall
          refine hcall.mono ?_
          rintro e w7 ⟨a7, c7, rfl, hrd7, hk7, _⟩
          have hA7 := hA6.below (hk7.below hbw6.size (fun i e => by omega))
          have hbw7 : Below w.heap.size w w7 := hbw6.trans (hk7.below hbw6.size (fun i e => by omega))
          have HR : Hid (RdAt w7 rb (cutSt S (flat A' (j + 1)).length ct).1 a7 c7 (cutSt S (flat A' (j + 1)).length ct).2) := by
            have e2 : cutSt S (flat A' (j + 1)).length ct = ([], 1) := by unfold cutSt; rw [if_neg hle]
            show RdAt _ _ _ _ _ _
            rw [e2]; exact hrd7
          have hc7 := hrd7.c1
          have hle' : ¬ ((flat A' j).length : Int) + (1 + (wid x : Int)) ≤ (ct : Int) := by have := HLN.out; omega
          clear hcall hrd6 hA6 hbw6 hk7 hcell6 hle hrd7
          generalize (flat A' j).length = p at HLN HSS hfl hle' ⊢
          go_wp2_with (go_at_call 23; refine (rerr_cell rb 1 _ hc7).mono ?_; rintro e w8 ⟨rfl, hw⟩; obtain rfl := hw.symm; clear hw)
          go_roundw
          case rel => exact ⟨j + 1, a7, c7, by omega, by go_num, by rw [HLN.out]; go_num, HR.out, hA7, hbw7⟩
          case measure => simp [RowKit.intOf]; omega
      · have hjk : j = k1 := by omega
        subst hjk
        have e1 : cutSt S (flat A' j).length ct = ([], 1) := by
          have e2 : flat A' j = S := by unfold flat; rw [HS.out, List.take_of_length_le (by have := HA.out; omega)]
          unfold cutSt
          rw [e2, HL.out, if_neg (by omega)]
        rw [e1] at hrdr
        clear e1 hAr
        go_wp2_with fail
        refine (rend_at hrdr).mono ?_
        rintro e w6 ⟨rfl, hw⟩
        obtain rfl := hw.symm
        clear hw
        go_wp2
        go_ret
        exact ⟨rfl, hbr⟩
end Go.Proofs.YtmdjjnjhjojimabDoor
