import Derived.Test.YtmdjjnjhjojimaaDoorAllN
namespace Go.Proofs.YtmdjjnjhjojimaaDoor
open Go.RowKit Go.Maps

theorem info4 : (Tryd.prog.info? 4).map (fun i => (i.zero, i.size, i.bytes)) = some (some (.bool false), 1, 1) := by kernel_rfl
theorem mkb (m : Nat) (h : m ≤ 4096) (w : World) : (Instr.makeSlice 28 (.int .i64 m) (.int .i64 m)).run Tryd.prog w = .ok (.slice (some ⟨w.heap.size, 0, none⟩) m m) (w.alloc (.cells (Array.replicate m (.bool false)) 4)) := by
  have hx := info4
  cases hq : Tryd.prog.info? 4 with
  | none => rw [hq] at hx; cases hx
  | some i =>
    rw [hq] at hx
    simp only [Option.map_some, Option.some.injEq, Prod.mk.injEq] at hx
    obtain ⟨h1, h2, h3⟩ := hx
    rw [run_make w 28 4 i _ Tryd.underlying28 hq h1 .i64 .i64 m m (by omega) (by omega) (by rw [h3]; omega) (by omega)]
    have e : madeCells (Value.bool false).cells ((m : Int).toNat * i.size) = Array.replicate m (.bool false) := by
      show madeCells (Array.replicate 1 (.bool false)) _ = _
      rw [madeCells_rep _ _ _ (by omega), h2]
      simp
    rw [e]
    simp
theorem first_inv (w : World) (n : Nat) : NInv ((w.alloc (.cells (Array.replicate n (.bool false)) 4)).alloc (.cells #[.slice none 0 0, .slice none 0 0, .slice (some ⟨w.heap.size, 0, none⟩) n n, .int .i64 0, .bool false] 39)) (w.heap.size + 2) (w.heap.size + 1) w.heap.size n n 0 (.slice none 0 0) (.slice none 0 0) [] [] := by
  have hs : (w.alloc (.cells (Array.replicate n (.bool false)) 4)).heap.size = w.heap.size + 1 := by simp
  have hr := heap_alloc_last (w.alloc (.cells (Array.replicate n (.bool false)) 4)) (.cells #[.slice none 0 0, .slice none 0 0, .slice (some ⟨w.heap.size, 0, none⟩) n n, .int .i64 0, .bool false] 39)
  rw [hs] at hr
  have hl : ((w.alloc (.cells (Array.replicate n (.bool false)) 4)).alloc (.cells #[.slice none 0 0, .slice none 0 0, .slice (some ⟨w.heap.size, 0, none⟩) n n, .int .i64 0, .bool false] 39)).heap[w.heap.size]? = some (.cells (Array.replicate n (.bool false)) 4) := by
    rw [Below.heap_alloc _ _ _ (by simp)]
    exact heap_alloc_last w _
  refine { c0 := ?_, c1 := ?_, c2 := ?_, c3 := ?_, c4 := ?_, f := fun o => ?_, two := ⟨World.ownsRow_nil _ _ _ _, World.ownsRow_nil _ _ _ _, fun _ e => (by cases e), fun _ h => absurd h (Nat.not_lt_zero _), fun _ h => absurd h (Nat.not_lt_zero _)⟩, lz := fun i hi => ?_, lf := fun o => ?_, lim := by simp }
  · rw [cell_of_row _ _ 0 _ 39 (0, 0) hr]; rfl
  · rw [cell_of_row _ _ 1 _ 39 (0, 0) hr]; rfl
  · rw [cell_of_row _ _ 2 _ 39 (0, 0) hr]; rfl
  · rw [cell_of_row _ _ 3 _ 39 (0, 0) hr]; rfl
  · rw [cell_of_row _ _ 4 _ 39 (0, 0) hr]; rfl
  · unfold World.frozen?; rw [hr]; simp
  · rw [cell_of_row _ _ i _ 4 (0, 0) hl]; simp [hi]
  · unfold World.frozen?; rw [hl]; simp
theorem wpOp_skip {P : Program} {ops : Array Oper} {Q : Exit → Act → World → Prop} {i : Nat} {K : Act → World → Prop} {a : Act} {w : World} {o : Oper} {w' : World} (ho : ops[i]? = some o) (hg : o.guard = none) (hd : o.dst = none) (hr : (execOp a.eval o).run P w = .ok .skip w') (hK : K a w') : wpOp P ops Q i K a w := by
  refine wpOp_oper ho hg ?_
  unfold Oper.wp
  rw [hr, Oper.upon_skip, hd]
  exact hK
/-- The frame, with the region's slots open. -/
def ndA (n j hs : Nat) (u12 u13 : Value) (x : Nat → Value) : Act := { tmps := #[.int .i64 n, undef, .pointer none, .pointer (some ⟨hs + 1, 0, none⟩), .int .i64 j, .int .i64 n, .slice (some ⟨hs, 0, none⟩) n n, .agg #[.slice none 0 0, .slice none 0 0, .slice (some ⟨hs, 0, none⟩) n n, .int .i64 0, .bool false], .pointer (some ⟨hs + 1, 0, none⟩), .int .i64 j, .int .i64 n, .bool true, u12, u13, x 14, x 15, x 16, x 17, x 18, x 19, x 20, x 21, x 22, x 23, x 24, x 25, x 26, x 27, x 28, x 29, x 30, x 31, x 32, x 33, undef], defers := [] }
theorem ndA_put (n j hs : Nat) (u12 u13 : Value) (c : Nat) (h1 : 14 ≤ c) (h2 : c ≤ 33) (x : Nat → Value) (v : Value) : (ndA n j hs u12 u13 x).put (some c) v = ndA n j hs u12 u13 (upd x c v) := by
  obtain rfl | rfl | rfl | rfl | rfl | rfl | rfl | rfl | rfl | rfl | rfl | rfl | rfl | rfl | rfl | rfl | rfl | rfl | rfl | rfl : c = 14 ∨ c = 15 ∨ c = 16 ∨ c = 17 ∨ c = 18 ∨ c = 19 ∨ c = 20 ∨ c = 21 ∨ c = 22 ∨ c = 23 ∨ c = 24 ∨ c = 25 ∨ c = 26 ∨ c = 27 ∨ c = 28 ∨ c = 29 ∨ c = 30 ∨ c = 31 ∨ c = 32 ∨ c = 33 := by omega
  all_goals simp [ndA, Act.put, upd]
theorem ndA_eval (n j hs : Nat) (u12 u13 : Value) (c : Nat) (h1 : 14 ≤ c) (h2 : c ≤ 33) (x : Nat → Value) : (ndA n j hs u12 u13 x).eval (.tmp c) = x c := by
  obtain rfl | rfl | rfl | rfl | rfl | rfl | rfl | rfl | rfl | rfl | rfl | rfl | rfl | rfl | rfl | rfl | rfl | rfl | rfl | rfl : c = 14 ∨ c = 15 ∨ c = 16 ∨ c = 17 ∨ c = 18 ∨ c = 19 ∨ c = 20 ∨ c = 21 ∨ c = 22 ∨ c = 23 ∨ c = 24 ∨ c = 25 ∨ c = 26 ∨ c = 27 ∨ c = 28 ∨ c = 29 ∨ c = 30 ∨ c = 31 ∨ c = 32 ∨ c = 33 := by omega
  all_goals simp [ndA, Act.eval]
theorem ndA_three {n j hs : Nat} {u12 u13 : Value} {wr : World} {Lm r : Nat} {v1 v2 : Value} {xs1 xs2 : List Value} {L : Array Bool} {a : Act} {w : World} (h : NdI (ndA n j hs u12 u13) wr Lm r j v1 v2 xs1 xs2 L a w) : a.eval (.tmp 3) = .pointer (some ⟨hs + 1, 0, none⟩) := by
  obtain ⟨_, x, _, _, _, _, _, rfl, _⟩ := h
  simp [ndA, Act.eval]
theorem one_new {w : World} {b : Nat} {v : Value} (h : w.cell? ⟨b, 0, none⟩ = some v) : ∀ j u, [v][j]? = some u → w.cell? (Addr.add ⟨b, 0, none⟩ j) = some u := by
  intro j u hu
  match j, hu with
  | 0, hu => rw [Addr.add_mid]; simp at hu; subst hu; exact h
  | k + 1, hu => simp at hu

set_option maxRecDepth 100000 in
set_option maxHeartbeats 4000000 in
theorem newDev_ok : NewDevOk := by
  intro n w hn1 hn2
  have hmb := fun W => mkb n hn2 W
  have hI := first_inv w n
  obtain ⟨i0, hi0, hz0, hz1, hz2⟩ := info_parts info33
  go_enter Tryd.func10, Tryd.ntmps10
  go_wp2_with fail
  clear hmb
  have hB : Below w.heap.size w ((w.alloc (.cells (Array.replicate n (.bool false)) 4)).alloc (.cells #[.slice none 0 0, .slice none 0 0, .slice (some ⟨w.heap.size, 0, none⟩) n n, .int .i64 0, .bool false] 39)) := ((Below.refl _ w).alloc (Nat.le_refl _) _).alloc (by simp) _
  go_loopw [4] (fun s4 wr => ∃ (j : Nat) (v1 v2 : Value) (xs1 xs2 : List Value), j ≤ n ∧ s4 = .int .i64 j ∧ NInv wr (w.heap.size + 2) (w.heap.size + 1) w.heap.size n n j v1 v2 xs1 xs2 ∧ Below w.heap.size w wr) (fun s4 _ => n - (RowKit.intOf s4).toNat)
  case atStart => exact ⟨0, _, _, _, _, Nat.zero_le _, rfl, hI, hB⟩
  case round =>
    obtain ⟨j, v1, v2, xs1, xs2, hj, rfl, hn, hbr⟩ := hrel
    clear hI hB
    by_cases hlt : j < n
    · have HN : Hid (NInv wr (w.heap.size + 2) (w.heap.size + 1) w.heap.size n n j v1 v2 xs1 xs2) := hn
      clear hn
      go_wp2_with fail
      have h0 : NInv wr.drew (w.heap.size + 2) (w.heap.size + 1) w.heap.size n n j v1 v2 xs1 xs2 := HN.out.keeps (Keeps.drew (Keeps.refl (fun _ => False) wr)) (fun _ e => e)
      have hbs := hbr.size
      refine wp_region_any (by kernel_rfl) ?_
      refine any_inv (I := NdI (ndA n j w.heap.size u12 u13) wr.drew (w.heap.size + 2) (w.heap.size + 1) j v1 v2 xs1 xs2) ?hsz ?hfw ?hdone ?hstep _ _ _ _ ?init ?cnt
      case hsz => exact fun L a w' h => h.1
      case hfw => kernel_rfl
      case init => exact NdI.start h0 (fun k => (#[u14, u15, u16, u17, u18, u19, u20, u21, u22, u23, u24, u25, u26, u27, u28, u29, u30, u31, u32, u33] : Array Value).getD (k - 14) undef)
      case cnt => decide
      case hdone =>
        intro L a w2 hI hall
        obtain ⟨x, y1, y2, ys1, ys2, rfl, hN2, hk2⟩ := hI.finish h0 hall
        have hb2 : Below w.heap.size w w2 := (below_dr hbr).trans (hk2.below hbs (fun b e => by rcases e with e | e <;> omega))
        have HN2 : Hid (NInv w2 (w.heap.size + 2) (w.heap.size + 1) w.heap.size n n (j + 1) y1 y2 ys1 ys2) := hN2
        clear hI hN2 hk2 h0 HN
        unfold ndA
        go_wp2_with fail
        go_roundw
        case rel => exact ⟨j + 1, y1, y2, ys1, ys2, by omega, by go_num, HN2.out, hb2⟩
        case measure => simp [RowKit.intOf]; omega
      case hstep =>
        intro i hi L a w2 hI hf hd
        rcases i with _ | _ | _ | _ | _ | _ | _ | _ | _ | _ | _ | _ | _ | _ | _ | _ | _ | _ | _ | _ | _ | _ | i
        · refine wpOp_value (v := _) rfl rfl (ex_move _ (.tmp 3) _ _ _ rfl (ndA_three hI)) ?_
          exact hI.pure 0 (by decide) rfl (fun x => ndA_put _ _ _ _ _ _ (by decide) (by decide) x _)
        · refine wpOp_value (v := _) rfl rfl (ex_move _ (.tmp 3) _ _ _ rfl (ndA_three hI)) ?_
          exact hI.pure 1 (by decide) rfl (fun x => ndA_put _ _ _ _ _ _ (by decide) (by decide) x _)
        · refine wpOp_value (v := _) rfl rfl (ex_move _ (.tmp 3) _ _ _ rfl (ndA_three hI)) ?_
          exact hI.pure 2 (by decide) rfl (fun x => ndA_put _ _ _ _ _ _ (by decide) (by decide) x _)
        · refine wpOp_value (v := _) rfl rfl (ex_nil _ (.tmp 16) (w.heap.size + 1) _ _ rfl (hI.slot (k := 2) (hd 2 (by kernel_rfl)) rfl rfl (ndA_eval _ _ _ _ _ _ (by decide) (by decide)))) ?_
          exact hI.pure 3 (by decide) rfl (fun x => ndA_put _ _ _ _ _ _ (by decide) (by decide) x _)
        · refine wpOp_value (v := _) rfl rfl (ex_field0 _ (.tmp 17) (w.heap.size + 1) _ _ rfl (hI.slot (k := 3) (hd 3 (by kernel_rfl)) rfl rfl (ndA_eval _ _ _ _ _ _ (by decide) (by decide)))) ?_
          exact hI.pure 4 (by decide) rfl (fun x => ndA_put _ _ _ _ _ _ (by decide) (by decide) x _)
        · refine wpOp_value (v := _) rfl rfl (ex_load _ (.tmp 18) (w.heap.size + 1) 0 v1 _ _ rfl (hI.slot (k := 4) (hd 4 (by kernel_rfl)) rfl rfl (ndA_eval _ _ _ _ _ _ (by decide) (by decide))) (NdI.held h0 hI (Or.inl hf)).1) ?_
          exact hI.pure 5 (by decide) rfl (fun x => ndA_put _ _ _ _ _ _ (by decide) (by decide) x _)
        · refine wpOp_value (v := _) rfl rfl (ex_make _ _ _ rfl rfl) ?_
          exact hI.make1 hf (ndA_put _ _ _ _ _ _ (by decide) (by decide))
        · obtain ⟨m, hm, hI'⟩ := hI.build1 hf (hd 6 (by kernel_rfl)) (ndA_put _ _ _ _ _ _ (by decide) (by decide)) (ndA_eval _ _ _ _ _ _ (by decide) (by decide))
          refine wpOp_value (v := _) rfl rfl (ex_build _ (.tmp 20) _ _ _ _ _ rfl hm) ?_
          exact hI'
        · obtain ⟨m, b, hb, hc, hown, hle, hI'⟩ := NdI.app1 h0 hf (hd 7 (by kernel_rfl)) (ndA_put _ _ _ _ _ _ (by decide) (by decide)) (ndA_eval _ _ _ _ _ _ (by decide) (by decide)) hI
          refine wpOp_oper rfl rfl (wp_append_lies _ (.tmp 19) (.tmp 21) 37 rfl (w.heap.size + 2) 33 i0 (.slice none 0 0) 1 24 Tryd.underlying37 hi0 hz0 hz1 hz2 rfl (by decide) v1 j xs1 (hI.slot (k := 5) (hd 5 (by kernel_rfl)) rfl rfl (ndA_eval _ _ _ _ _ _ (by decide) (by decide))) hown ⟨b, 0, none⟩ 1 1 [.slice (some ⟨m, 0, none⟩) 64 64] hb rfl (one_new hc) (fun u hu => by cases hu with | head => rfl | tail _ h => cases h) (by decide) (by unfold maxLen; omega) (by omega) hle _ rfl ?_)
          intro g' c' w1 z1 z2 z3 z4
          exact hI' g' c' w1 z1 z2 z3 z4
        · refine wpOp_value (v := _) rfl rfl (ex_move _ (.tmp 3) _ _ _ rfl (ndA_three hI)) ?_
          exact hI.pure 9 (by decide) rfl (fun x => ndA_put _ _ _ _ _ _ (by decide) (by decide) x _)
        · refine wpOp_value (v := _) rfl rfl (ex_nil _ (.tmp 23) (w.heap.size + 1) _ _ rfl (hI.slot (k := 9) (hd 9 (by kernel_rfl)) rfl rfl (ndA_eval _ _ _ _ _ _ (by decide) (by decide)))) ?_
          exact hI.pure 10 (by decide) rfl (fun x => ndA_put _ _ _ _ _ _ (by decide) (by decide) x _)
        · refine wpOp_value (v := _) rfl rfl (ex_field1 _ (.tmp 24) (w.heap.size + 1) _ _ rfl (hI.slot (k := 10) (hd 10 (by kernel_rfl)) rfl rfl (ndA_eval _ _ _ _ _ _ (by decide) (by decide)))) ?_
          exact hI.pure 11 (by decide) rfl (fun x => ndA_put _ _ _ _ _ _ (by decide) (by decide) x _)
        · refine wpOp_value (v := _) rfl rfl (ex_load _ (.tmp 25) (w.heap.size + 1) 1 v2 _ _ rfl (hI.slot (k := 11) (hd 11 (by kernel_rfl)) rfl rfl (ndA_eval _ _ _ _ _ _ (by decide) (by decide))) (NdI.held h0 hI (Or.inr hf)).2) ?_
          exact hI.pure 12 (by decide) rfl (fun x => ndA_put _ _ _ _ _ _ (by decide) (by decide) x _)
        · refine wpOp_value (v := _) rfl rfl (ex_make _ _ _ rfl rfl) ?_
          exact hI.make2 hf (ndA_put _ _ _ _ _ _ (by decide) (by decide))
        · obtain ⟨m, hm, hI'⟩ := hI.build2 hf (hd 13 (by kernel_rfl)) (ndA_put _ _ _ _ _ _ (by decide) (by decide)) (ndA_eval _ _ _ _ _ _ (by decide) (by decide))
          refine wpOp_value (v := _) rfl rfl (ex_build _ (.tmp 27) _ _ _ _ _ rfl hm) ?_
          exact hI'
        · obtain ⟨m, b, hb, hc, hown, hle, hI'⟩ := NdI.app2 h0 hf (hd 14 (by kernel_rfl)) (ndA_put _ _ _ _ _ _ (by decide) (by decide)) (ndA_eval _ _ _ _ _ _ (by decide) (by decide)) hI
          refine wpOp_oper rfl rfl (wp_append_lies _ (.tmp 26) (.tmp 28) 37 rfl (w.heap.size + 2) 33 i0 (.slice none 0 0) 1 24 Tryd.underlying37 hi0 hz0 hz1 hz2 rfl (by decide) v2 j xs2 (hI.slot (k := 12) (hd 12 (by kernel_rfl)) rfl rfl (ndA_eval _ _ _ _ _ _ (by decide) (by decide))) hown ⟨b, 0, none⟩ 1 1 [.slice (some ⟨m, 0, none⟩) 64 64] hb rfl (one_new hc) (fun u hu => by cases hu with | head => rfl | tail _ h => cases h) (by decide) (by unfold maxLen; omega) (by omega) hle _ rfl ?_)
          intro g' c' w1 z1 z2 z3 z4
          exact hI' g' c' w1 z1 z2 z3 z4
        · refine wpOp_value (v := _) rfl rfl (ex_nil _ (.tmp 14) (w.heap.size + 1) _ _ rfl (hI.slot (k := 0) (hd 0 (by kernel_rfl)) rfl rfl (ndA_eval _ _ _ _ _ _ (by decide) (by decide)))) ?_
          exact hI.pure 16 (by decide) rfl (fun x => ndA_put _ _ _ _ _ _ (by decide) (by decide) x _)
        · refine wpOp_value (v := _) rfl rfl (ex_field0 _ (.tmp 30) (w.heap.size + 1) _ _ rfl (hI.slot (k := 16) (hd 16 (by kernel_rfl)) rfl rfl (ndA_eval _ _ _ _ _ _ (by decide) (by decide)))) ?_
          exact hI.pure 17 (by decide) rfl (fun x => ndA_put _ _ _ _ _ _ (by decide) (by decide) x _)
        · obtain ⟨g, c, hg, hc, hfz, hI'⟩ := NdI.store1 h0 hf (hd 5 (by kernel_rfl)) (hd 12 (by kernel_rfl)) (hd 8 (by kernel_rfl)) (hd 15 (by kernel_rfl)) (ndA_eval _ _ _ _ _ _ (by decide) (by decide)) hI
          exact wpOp_skip rfl rfl rfl (ex_store _ (.tmp 31) (.tmp 22) (w.heap.size + 1) 0 v1 _ _ _ _ _ rfl (hI.slot (k := 17) (hd 17 (by kernel_rfl)) rfl rfl (ndA_eval _ _ _ _ _ _ (by decide) (by decide))) hg hc hfz) hI'
        · refine wpOp_value (v := _) rfl rfl (ex_nil _ (.tmp 15) (w.heap.size + 1) _ _ rfl (hI.slot (k := 1) (hd 1 (by kernel_rfl)) rfl rfl (ndA_eval _ _ _ _ _ _ (by decide) (by decide)))) ?_
          exact hI.pure 19 (by decide) rfl (fun x => ndA_put _ _ _ _ _ _ (by decide) (by decide) x _)
        · refine wpOp_value (v := _) rfl rfl (ex_field1 _ (.tmp 32) (w.heap.size + 1) _ _ rfl (hI.slot (k := 19) (hd 19 (by kernel_rfl)) rfl rfl (ndA_eval _ _ _ _ _ _ (by decide) (by decide)))) ?_
          exact hI.pure 20 (by decide) rfl (fun x => ndA_put _ _ _ _ _ _ (by decide) (by decide) x _)
        · obtain ⟨g, c, hg, hc, hfz, hI'⟩ := NdI.store2 h0 hf (hd 18 (by kernel_rfl)) (ndA_eval _ _ _ _ _ _ (by decide) (by decide)) hI
          exact wpOp_skip rfl rfl rfl (ex_store _ (.tmp 33) (.tmp 29) (w.heap.size + 1) 1 v2 _ _ _ _ _ rfl (hI.slot (k := 20) (hd 20 (by kernel_rfl)) rfl rfl (ndA_eval _ _ _ _ _ _ (by decide) (by decide))) hg hc hfz) hI'
        · exact absurd hi (by show ¬ i + 22 < 22; omega)
    · have hjn : j = n := by omega
      subst hjn
      go_wp2_with fail
      go_ret
      obtain ⟨nb, sb, cn, cs, hR, k1, k2⟩ := hn.done w.heap.size (by omega) hn1 hn2
      exact ⟨_, nb, sb, _, cn, cs, _, rfl, hR, by omega, k1, k2, Nat.le_refl _, hbr⟩
end Go.Proofs.YtmdjjnjhjojimaaDoor
