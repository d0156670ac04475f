import Derived.Test.YtmdjjnjhjojimaaDoorAllC
namespace Go.Proofs.YtmdjjnjhjojimaaDoor
open Go.RowKit Go.Maps

def mix {α : Type} (f g : Nat → α) (j : Nat) : Nat → α := fun k => if k < j then f k else g k
theorem mix_step {α : Type} (f g : Nat → α) (j : Nat) : upd (mix f g j) j (f j) = mix f g (j + 1) := by
  funext k
  unfold upd mix
  by_cases e : k = j
  · subst e; rw [if_pos rfl, if_pos (by omega)]
  · rw [if_neg e]
    by_cases h : k < j
    · rw [if_pos h, if_pos (by omega)]
    · rw [if_neg h, if_neg (by omega)]
theorem mix_zero {α : Type} (f g : Nat → α) : mix f g 0 = g := by funext k; unfold mix; rw [if_neg (by omega)]
theorem RowsAt.congr {w : World} {Bad : Nat → Prop} {rb n : Nat} {X Y : Nat → List UInt8} (h : RowsAt w Bad rb n X) (e : ∀ k, k < n → X k = Y k) : RowsAt w Bad rb n Y := {
  h with
  at_ := fun i hi => by rw [← e i hi]; exact h.at_ i hi
  len := fun i hi => by rw [← e i hi]; exact h.len i hi }
theorem RefAt.congr {Now' Safe' : Nat → List UInt8} {Lz' : Nat → Bool} {w : World} {Bad : Nat → Prop} {r nb sb lb n cn cs cl : Nat} {Now Safe : Nat → List UInt8} {Lz : Nat → Bool} {fuse : Int} {fused : Bool} (h : RefAt w Bad r nb sb lb n cn cs cl Now Safe Lz fuse fused) (e1 : ∀ k, k < n → Now k = Now' k) (e2 : ∀ k, k < n → Safe k = Safe' k) (e3 : ∀ k, k < n → Lz k = Lz' k) : RefAt w Bad r nb sb lb n cn cs cl Now' Safe' Lz' fuse fused :=
  { h with
    now := h.now.congr e1
    safe := h.safe.congr e2
    lz := fun i hi => by rw [← e3 i hi]; exact h.lz i hi }

theorem refFlush_down {w : World} {Bad : Nat → Prop} {r nb sb lb n cn cs cl : Nat} {Now Safe : Nat → List UInt8} {Lz : Nat → Bool} {fuse : Int} {fused : Bool} (h : RefAt w Bad r nb sb lb n cn cs cl Now Safe Lz fuse fused) (hd : (fused && decide (fuse ≤ 0)) = true) : Calls Tryd.prog 15 #[.pointer (some ⟨r, 0, none⟩)] w fun e w' => e = .returned (.int .i64 9) ∧ w' = w := by
  go_enter Tryd.func15, Tryd.ntmps15
  go_wp2_with (go_at_call 17; refine (refDown h).mono ?_; rintro e w' ⟨rfl, hw⟩; obtain rfl := hw.symm; rw [hd])
  go_ret
  exact ⟨rfl, rfl⟩

set_option maxRecDepth 100000 in
set_option maxHeartbeats 1000000 in
theorem refFlush_ok {w : World} {Bad : Nat → Prop} {r nb sb lb n cn cs cl : Nat} {Now Safe : Nat → List UInt8} {Lz : Nat → Bool} {fuse : Int} {fused : Bool} (h : RefAt w Bad r nb sb lb n cn cs cl Now Safe Lz fuse fused) (hd : (fused && decide (fuse ≤ 0)) = false) :
    Calls Tryd.prog 15 #[.pointer (some ⟨r, 0, none⟩)] w fun e w' => e = .returned (.int .i64 0) ∧ RefAt w' Bad r nb sb lb n cn cs cl Now Now (fun _ => false) (spendF fused fuse) fused ∧ Keeps (fun x => x = r ∨ x = sb ∨ x = lb) w w' := by
  have hdd : fuse ≤ 0 → fused = false := by intro e; cases fused; rfl; simp [e] at hd
  go_enter Tryd.func15, Tryd.ntmps15
  go_wp2_with (go_at_call 17; refine (refDown h).mono ?_; rintro e w' ⟨rfl, hw⟩; obtain rfl := hw.symm; rw [hd])
  refine (refSpend' h hdd).mono ?_
  rintro e w1 ⟨rfl, h1, hk1⟩
  have hk1' : Keeps (fun x => x = r ∨ x = sb ∨ x = lb) w w1 := hk1.mono (fun _ e => Or.inl e)
  have c0 := h1.c0
  have hn2 := h1.n2
  clear h hd hdd hk1
  go_wp2_with fail
  go_loopw [13] (fun s13 wr => ∃ j : Nat, j ≤ n ∧ s13 = .int .i64 j ∧ RefAt wr Bad r nb sb lb n cn cs cl Now (mix Now Safe j) (mix (fun _ => false) Lz j) (spendF fused fuse) fused ∧ Keeps (fun x => x = r ∨ x = sb ∨ x = lb) w wr) (fun s13 _ => n - (RowKit.intOf s13).toNat)
  case atStart => exact ⟨0, Nat.zero_le _, rfl, by rw [mix_zero, mix_zero]; exact h1, hk1'⟩
  case round =>
    obtain ⟨j, hj, rfl, hr, hkr⟩ := hrel
    clear h1 hk1' c0
    by_cases hlt : j < n
    · obtain ⟨m1, m2, m3, m4, m5, m6⟩ := hr.ne
      obtain ⟨b, c, e0, hbl, hbb, hrb⟩ := hr.now.at_ j hlt
      obtain ⟨b', c', e1, _⟩ := hr.safe.at_ j hlt
      have c0 := hr.c0
      have c1 := hr.c1
      have c2 := hr.c2
      have f1 := hr.safe.fz j
      have hl := hr.lz j hlt
      have fl := hr.lf j
      have h2 := hr.putSafe j hlt (Now j) (hr.now.len j hlt) b c hbl hbb hrb
      rw [mix_step Now Safe j] at h2
      have h3 := h2.putLoose j hlt false
      have hms := mix_step (fun _ => false) Lz j
      rw [hms] at h3
      have hk2 := (hkr.setCell (p := ⟨sb, j, none⟩) (Or.inr (Or.inl rfl)) (.slice (some ⟨b, 0, none⟩) 64 c)).setCell (p := ⟨lb, j, none⟩) (Or.inr (Or.inr rfl)) (.bool false)
      have H3 : Hid (RefAt ((wr.setCell ⟨sb, j, none⟩ (.slice (some ⟨b, 0, none⟩) 64 c)).setCell ⟨lb, j, none⟩ (.bool false)) Bad r nb sb lb n cn cs cl Now (mix Now Safe (j + 1)) (mix (fun _ => false) Lz (j + 1)) (spendF fused fuse) fused) := h3
      clear h2 h3 hms hr hkr hrb
      have hl' : (wr.setCell ⟨sb, j, none⟩ (.slice (some ⟨b, 0, none⟩) 64 c)).cell? ⟨lb, j, none⟩ = some (.bool (mix (fun _ => false) Lz j j)) := by rw [World.cell?_setCell_far _ _ _ _ m6]; exact hl
      have fl' : (wr.setCell ⟨sb, j, none⟩ (.slice (some ⟨b, 0, none⟩) 64 c)).frozen? ⟨lb, j, none⟩ = false := by rw [World.frozen?_setCell]; exact fl
      have k1 := Ne.symm m1
      have k2 := Ne.symm m2
      have k3 := Ne.symm m3
      have k4 := Ne.symm m4
      have k5 := Ne.symm m5
      have k6 := Ne.symm m6
      go_wp2_with fail
      refine wp_region_noPanic ?_
      go_region_held (fun w' => w'.cell? ⟨r, 0, none⟩ = some (.slice (some ⟨nb, 0, none⟩) n cn) ∧ w'.cell? ⟨r, 1, none⟩ = some (.slice (some ⟨sb, 0, none⟩) n cs) ∧ w'.cell? ⟨r, 2, none⟩ = some (.slice (some ⟨lb, 0, none⟩) n cl) ∧ w'.cell? ⟨nb, j, none⟩ = some (.slice (some ⟨b, 0, none⟩) 64 c)) (go_keep) (fail)
      refine NoPanic.normal ?_
      go_wp2_with fail
      go_roundw
      case rel => exact ⟨j + 1, by omega, by go_num, H3.out.below (below_dr (Below.refl _ _)), hk2.drew⟩
      case measure => simp [RowKit.intOf]; omega
    · have hjn : j = n := by omega
      subst hjn
      go_wp2_with fail
      go_ret
      refine ⟨rfl, hr.congr (fun _ _ => rfl) (fun k hk => ?_) (fun k hk => ?_), hkr⟩
      · unfold mix; rw [if_pos hk]
      · unfold mix; rw [if_pos hk]
theorem info3 : (Tryd.prog.info? 3).map (fun i => (i.zero, i.size, i.bytes)) = some (some (.int .i64 0), 1, 8) := by kernel_rfl
theorem zrow_one (l : List Int) : ∀ u ∈ l.map encZ, u.oneCell' = true := by
  intro u hu
  obtain ⟨s, _, rfl⟩ := List.mem_map.1 hu
  rfl

set_option maxRecDepth 100000 in
set_option maxHeartbeats 1000000 in
theorem refLoose {w : World} {Bad : Nat → Prop} {r nb sb lb n cn cs cl : Nat} {Now Safe : Nat → List UInt8} {Lz : Nat → Bool} {fuse : Int} {fused : Bool} (h : RefAt w Bad r nb sb lb n cn cs cl Now Safe Lz fuse fused) : Calls Tryd.prog 47 #[.pointer (some ⟨r, 0, none⟩)] w fun e w' => ∃ v, e = .returned v ∧ w'.ownsRow w.heap.size 3 1 v (looseL Lz n).length ((looseL Lz n).map encZ) ∧ Below w.heap.size w w' := by
  obtain ⟨i0, hi0, hz0, hz1, hz2⟩ := info_parts info3
  have c2 := h.c2
  have hn2 := h.n2
  go_enter Tryd.func47, Tryd.ntmps47
  go_wp2_with fail
  go_loopw [3, 10] (fun s3 s10 wr => ∃ j : Nat, j ≤ n ∧ s10 = .int .i64 j ∧ wr.ownsRow w.heap.size 3 1 s3 (looseL Lz j).length ((looseL Lz j).map encZ) ∧ Below w.heap.size w wr) (fun _ s10 _ => n - (RowKit.intOf s10).toNat)
  case atStart => exact ⟨0, Nat.zero_le _, rfl, World.ownsRow_nil _ _ _ _, Below.refl _ _⟩
  case round =>
    obtain ⟨j, hj, rfl, hrow, hb⟩ := hrel
    clear c2
    by_cases hlt : j < n
    · have hr := h.below hb
      have c2 := hr.c2
      have hl := hr.lz j hlt
      have hbs := hb.size
      have hll : (looseL Lz j).length ≤ j := by unfold looseL; rw [List.length_map]; exact looseN_len Lz j
      have hss : looseL Lz (j + 1) = if Lz j = true then looseL Lz j ++ [(j : Int)] else looseL Lz j := by
        unfold looseL
        rw [looseN_succ]
        split
        · rw [List.map_append]; rfl
        · rfl
      clear hr
      cases hz : Lz j
      · rw [hz] at hl
        rw [hz, if_neg (by simp)] at hss
        have HS : Hid (looseL Lz (j + 1) = looseL Lz j) := hss
        clear hss
        go_wp2_with fail
        go_roundw
        case rel => exact ⟨j + 1, by omega, by go_num, by rw [HS.out]; exact hrow, hb⟩
        case measure => simp [RowKit.intOf]; omega
      · rw [hz] at hl
        rw [hz, if_pos rfl] at hss
        have HS : Hid (looseL Lz (j + 1) = looseL Lz j ++ [(j : Int)]) := hss
        clear hss
        go_wp2_with (at_builtin; refine wpList_append_own _ rfl _ _ 43 rfl w.heap.size 3 i0 (.int .i64 0) 1 8 Tryd.underlying43 hi0 hz0 hz1 hz2 rfl (by decide) _ (looseL Lz j).length _ rfl (hrow.alloc _) ⟨wr.heap.size, 0, none⟩ 1 1 [.int .i64 j] rfl rfl (cell_one_new _ _ _) ?q1 ?q2 ?q3 ?q4 ?_)
        case q1 => intro u hu; cases hu with | head => rfl | tail _ h => cases h
        case q2 => unfold maxLen; omega
        case q3 => omega
        case q4 => simp; omega
        intro v1 w1 hown1 hg1 hnil1
        have hb1 : Below w.heap.size w w1 := by
          refine (hb.alloc hbs _).grown hg1 (by simp; omega) (fun k e => ?_)
          obtain ⟨_, ⟨e1, _⟩ | ⟨g', cap, cur, e1, r1, _⟩⟩ := hrow
          · rw [e1] at e; cases e
          · rw [e1] at e; cases e; exact r1
        have AR : Hid (w1.ownsRow w.heap.size 3 1 v1 (looseL Lz (j + 1)).length ((looseL Lz (j + 1)).map encZ)) := by
          show w1.ownsRow w.heap.size 3 1 v1 (looseL Lz (j + 1)).length ((looseL Lz (j + 1)).map encZ)
          rw [HS.out, List.length_append, List.map_append]; exact hown1
        clear hown1 hg1 hnil1 hrow hb
        go_wp2_with fail
        go_roundw
        case rel => exact ⟨j + 1, by omega, by go_num, AR.out, hb1⟩
        case measure => simp [RowKit.intOf]; omega
    · have hjn : j = n := by omega
      subst hjn
      go_wp2_with fail
      go_ret
      exact ⟨_, rfl, hrow, hb⟩
end Go.Proofs.YtmdjjnjhjojimaaDoor
