import Derived.Test.YtmdjjnjhjojimaaDoorDevE
namespace Go.Proofs.YtmdjjnjhjojimaaDoor
open Go.RowKit Go.Maps

theorem mem_insertD {H : Type} (x p : Lit × DataW H) : ∀ l : List (Lit × DataW H), p ∈ DataW.insert x l → p = x ∨ p ∈ l
  | [], h => by simp [DataW.insert] at h; exact Or.inl h
  | y :: r, h => by
    unfold DataW.insert at h
    split at h
    · simpa using h
    · rcases List.mem_cons.1 h with h | h
      · exact Or.inr (by simp [h])
      · rcases mem_insertD x p r h with h | h
        · exact Or.inl h
        · exact Or.inr (by simp [h])
theorem intKeys_put {H : Type} (D d : DataW H) (i x : Int) (h : x ∈ intKeys (D.put (.int .i64 i) d)) : x = i ∨ x ∈ intKeys D := by
  unfold DataW.put at h
  split at h
  · simp only [intKeys, List.mem_map] at h ⊢
    obtain ⟨p, hp, rfl⟩ := h
    rcases mem_insertD _ _ _ hp with h | h
    · subst h; exact Or.inl rfl
    · exact Or.inr ⟨p, (List.mem_filter.1 h).1, rfl⟩
  · exact Or.inr h

/-- A sector of the device loaded, in a still region. -/
theorem wpStill_load_sec {ops : Array Oper} {w : World} {Q : Act → Prop} {a : Act} {op : Oper} {rest : List Oper} {nb n i : Nat} {B : List UInt8} (hB : w.rangeAt nb 0 (bytesV B)) (hl : B.length = n * 64) (hi : i < n)
    (hgd : op.guard = none) (x : Operand) (ho : op.op = .load 80 x) (o : Nat) (hx : a.eval x = .pointer (some ⟨nb, o, none⟩)) (hoff : o = 64 * i)
    (h : wpStill Tryd.prog ops w Q rest (a.put op.dst (.agg (bytesV (sec B i)).toArray))) : wpStill Tryd.prog ops w Q (op :: rest) a := by
  subst hoff
  exact wpStill_load_mid hgd 80 x ho nb (64 * i) hx (bytesV (sec B i)) _ (rangeAt_sec hB i) Tryd.underlying80 rfl (by rw [size80, bytesV_length, sec_length hl hi]) h

set_option maxRecDepth 100000 in
set_option maxHeartbeats 400000 in
theorem write_new {w : World} {db nb mb n cap : Nat} {B : List UInt8} {k : Nat} {D : DataW Unit} {left : Int} (h : DevAt w db nb mb n cap B k D left false) (i : Nat) (hi : i < n) (s : List UInt8) (hs : s.length = 64)
    (sb so sc : Nat) (hsrc : w.rangeAt sb so (bytesV s)) (hsm : sb ≠ mb) (hkm : k < maxLen) (hh : Maps.has D (.int .i64 i) = false) :
    Calls Tryd.prog 11 #[.pointer (some ⟨db, 0, none⟩), .int .i64 i, .slice (some ⟨sb, so, none⟩) 64 sc] w fun e w' => e = .returned (.int .i64 0) ∧
      DevAt w' db nb mb n cap (put B i s) (k + 1) (D.put (.int .i64 i) (.lit (.string (sec B i)))) (burnL left) (burnD left false) ∧ Keeps (fun j => j = db ∨ j = nb ∨ j = mb) w w' := by
  have hkey : keyOf Tryd.prog 3 (.int .i64 i) = some (.int .i64 i) := keyOf_int_mk Tryd.underlying3 (WalkArith.wf_i64 (by have := h.n2; omega))
  have c1 := h.c1
  go_enter Tryd.func11, Tryd.ntmps11
  go_wp2_with (first
    | (go_at_call 20; refine (down_any _ _ _ h.c3).mono ?_; rintro e w' ⟨rfl, rfl⟩)
    | (go_at_call 43; refine (has_yes _ _ _ _ _ _ h.c0 (by omega) (by omega)).mono ?_; rintro e w' ⟨rfl, rfl⟩)
    | (at_lookup; refine wpList_lookup_sec rfl _ _ rfl mb k _ rfl h.was _ _ rfl hkey ?_; intro s0 hs0 _)
    | (refine wpList_store_fresh _ _ _ rfl _ _ rfl rfl rfl rfl (by simp [bytesV_length, hs0]) (all_oneCell_toArray (bytesV_one _)) ?_; intro w1 hk1))
  have h1 : DevAt w1 db nb mb n cap B k D left false := h.keeps hk1 (fun e => e) (fun e => e) (fun e => e)
  have hsl : sb < w'.heap.size := by
    have := hsrc 0 (bV (s.getD 0 0)) (by cases s with | nil => simp at hs | cons x r => simp [bytesV])
    exact World.block_lt_of_cell? _ _ this
  have hsrc1 : w1.rangeAt sb so (bytesV s) := fun j v hv => (hk1.cell (p := ⟨sb, so + j, none⟩) hsl (fun e => e)).trans (hsrc j v hv)
  have hsl1 : sb < w1.heap.size := Nat.lt_of_lt_of_le hsl hk1.size
  have c0 := h1.c0
  clear c1
  have c1 := h1.c1
  have hsec := sec_length h.len hi
  refine wp_region_still_tail 12 follows (by kernel_rfl) ?_
  simp only [List.take_succ_cons, List.take_zero, List.drop_succ_cons, List.drop_zero]
  change wpStill _ _ w1.drew (fun a' => wpList _ _ _ _ a' w1.drew) _ _
  iterate 11 still_step
  refine wpStill_load_sec h1.drew.now h1.len hi rfl _ rfl _ rfl (by omega) ?_
  refine wpStill_nil ?_
  refine wpList_mapUpdate_own _ rfl _ _ _ 82 rfl 3 80 law3 Tryd.underlying82 secR mb k D rfl h1.drew.was hkm _ _ _ rfl rfl hkey (.lit (.string (sec B i))) [] (secR_mk _ hsec) ?_
  intro w2 hown2 hg2
  have hk2 : Keeps (fun j => j = mb) w1 w2 := ((Keeps.refl (fun j => j = mb) w1).drew).grown hg2 (fun j e => by cases e; rfl)
  have h2 : DevAt w2 db nb mb n cap B (k + 1) (D.put (.int .i64 i) (.lit (.string (sec B i)))) left false :=
    { h1 with
      c0 := (hk2.cell (p := ⟨db, 0, none⟩) h1.dlt (fun e => h.ne2 e.symm)).trans h1.c0
      c1 := (hk2.cell (p := ⟨db, 1, none⟩) h1.dlt (fun e => h.ne2 e.symm)).trans h1.c1
      c2 := (hk2.cell (p := ⟨db, 2, none⟩) h1.dlt (fun e => h.ne2 e.symm)).trans h1.c2
      c3 := (hk2.cell (p := ⟨db, 3, none⟩) h1.dlt (fun e => h.ne2 e.symm)).trans h1.c3
      f := fun o => (hk2.frozen (p := ⟨db, o, none⟩) h1.dlt (fun e => h.ne2 e.symm)).trans (h1.f o)
      now := fun j v hv => (hk2.cell (p := ⟨nb, 0 + j, none⟩) h1.nlt (fun e => h.ne3 e.symm)).trans (h1.now j v hv)
      thr := fun j hj => ⟨by rw [hk2.cell (p := ⟨nb, 0 + j, none⟩) h1.nlt (fun e => h.ne3 e.symm)]; exact (h1.thr j hj).1, by rw [hk2.frozen (p := ⟨nb, 0 + j, none⟩) h1.nlt (fun e => h.ne3 e.symm)]; exact (h1.thr j hj).2⟩
      was := hown2
      keys := fun x hx => by
        rcases intKeys_put _ _ _ _ hx with rfl | hx
        · omega
        · exact h.keys x hx }
  have hsrc2 : w2.drew.rangeAt sb so (bytesV s) := fun j v hv => (hk2.cell (p := ⟨sb, so + j, none⟩) hsl1 hsm).trans (hsrc1 j v hv)
  clear c0 c1
  have c0 := h2.c0
  go_wp2_with fail
  refine wp_region_still_tail 9 follows (by kernel_rfl) ?_
  simp only [List.take_succ_cons, List.take_zero, List.drop_succ_cons, List.drop_zero]
  change wpStill _ _ w2.drew (fun a' => wpList _ _ _ _ a' w2.drew) _ _
  iterate 6 still_step
  have ha := arr80
  still_step
  clear ha
  refine wpStill_load_mid rfl 80 _ rfl sb so rfl (bytesV s) _ hsrc2 Tryd.underlying80 rfl (by rw [size80, bytesV_length, hs]) ?_
  still_step
  refine wpStill_nil ?_
  refine wpList_store_now h2.drew hi hs rfl _ _ rfl _ rfl (by omega) rfl ?_
  intro w3 h3 hk3
  go_wp2_with (go_at_call 44; refine (burn_dev h3).mono ?_; rintro e w4 ⟨rfl, h4, hk4⟩)
  go_ret
  exact ⟨rfl, h4, (((hk1.mono (fun _ e => e.elim)).trans (hk2.mono (fun _ e => Or.inr (Or.inr e)))).drew.trans (hk3.mono (fun _ e => Or.inr (Or.inl e)))).trans (hk4.mono (fun _ e => Or.inl e))⟩
end Go.Proofs.YtmdjjnjhjojimaaDoor
