import Derived.Test.YteehcffmccgciaaGreatDoorPlA
import Derived.Laws.OwnMore
import Derived.Deep.RegionHeld3
import Derived.StillTailTactics
import Derived.OneCell
namespace Go.Proofs.YteehcffmccgciaaGreatDoor
open Go.RowKit Go.Maps

def nobody : Int := -9223372036854775808
/-- The reference's pool in memory. -/
structure RefAt (w : World) (lo rb : Nat) (v : Value) (M : List Int) : Prop where
  c0 : w.cell? ⟨rb, 0, none⟩ = some v
  f0 : w.frozen? ⟨rb, 0, none⟩ = false
  own : IntsR w lo v M
  ne : v.ownBlock ≠ some rb
  n1 : M.length ≤ 1000
theorem RefAt.rl {w : World} {lo rb : Nat} {v : Value} {M : List Int} (h : RefAt w lo rb v M) : rb < w.heap.size := World.block_lt_of_cell? w _ h.c0
theorem RefAt.keeps {S : Nat → Prop} {w w' : World} {lo rb : Nat} {v : Value} {M : List Int} (h : RefAt w lo rb v M) (hk : Keeps S w w') (s1 : ¬ S rb) (s2 : ∀ i, lo ≤ i → ¬ S i) : RefAt w' lo rb v M :=
  { h with
    c0 := (hk.cell (p := ⟨rb, 0, none⟩) h.rl s1).trans h.c0
    f0 := (hk.frozen (p := ⟨rb, 0, none⟩) h.rl s1).trans h.f0
    own := h.own.keep hk s2 }
theorem RefAt.below {w w' : World} {lo rb : Nat} {v : Value} {M : List Int} (h : RefAt w lo rb v M) (hb : Below w.heap.size w w') : RefAt w' lo rb v M :=
  h.keeps (Keeps.of_below (S := fun _ => False) hb) (fun e => e) (fun _ _ e => e)
/-- The state of the reference's Of. -/
def ROfI (o : Int) (M : List Int) (j : Nat) (v : Value) (w wr : World) : Prop := IntsR wr w.heap.size v (natsI (idxs (fun x => x == o) 0 (M.take j))) ∧ Below w.heap.size w wr
theorem idxs_step {α : Type} (P : α → Bool) (M : List α) (j : Nat) (h : j < M.length) : idxs P 0 (M.take (j + 1)) = idxs P 0 (M.take j) ++ (if P M[j] then [j] else []) := by
  rw [List.take_succ_eq_append_getElem h, idxs_snoc, List.length_take, Nat.zero_add, Nat.min_eq_left (by omega)]
set_option maxRecDepth 100000 in
set_option maxHeartbeats 2000000 in
theorem rof_at {w : World} {lo rb : Nat} {v : Value} {M : List Int} (h : RefAt w lo rb v M) (o : Int) :
    Calls Tryz.prog 20 #[.pointer (some ⟨rb, 0, none⟩), .int .i64 o] w fun e w' => ∃ v', e = .returned v' ∧ IntsR w' w.heap.size v' (natsI (idxs (fun x => x == o) 0 M)) ∧ Below w.heap.size w w' := by
  have H : Hid (RefAt w lo rb v M) := h
  have c0 := h.c0
  have hn := h.n1
  obtain ⟨p, c, hv, _⟩ := h.own.shape
  subst hv
  have HI0 : Hid (ROfI o M 0 (.slice none 0 0) w w) := ⟨IntsR.nil w _, Below.refl _ _⟩
  obtain ⟨i0, hi, hz0, hz1, hz2⟩ := info_parts infoInt
  obtain ⟨n, hnn⟩ : ∃ n, M.length = n := ⟨_, rfl⟩
  have HN : Hid (M.length = n) := hnn
  rw [hnn] at c0 hn H
  clear h hnn
  go_enter Tryz.func20, Tryz.ntmps20
  go_wp2_with fail
  go_loopw [5, 12] (fun s5 s12 wr => ∃ j : Nat, j ≤ n ∧ s12 = .int .i64 j ∧ Hid (ROfI o M j s5 w wr)) (fun _ s12 _ => n - (RowKit.intOf s12).toNat)
  case atStart => exact ⟨0, Nat.zero_le _, rfl, HI0⟩
  case round =>
    clear HI0
    obtain ⟨j, hj, rfl, HI⟩ := hrel
    by_cases hlt : j < n
    · have hb := HI.out.2
      have hP := H.out.below hb
      have hjM : j < M.length := by have := HN.out; omega
      obtain ⟨g, c', e1, _, _, _, hcell⟩ := hP.own.at_ (by omega)
      rw [show M.length = n from HN.out] at e1
      obtain ⟨rfl, rfl⟩ : p = some ⟨g, 0, none⟩ ∧ c = c' := by injection e1 with x y z; exact ⟨x, z⟩
      have f0 := hP.c0
      have f1 := hcell j hjM
      have hx : M.getD j 0 = M[j] := by simp [List.getD, hjM]
      rw [hx] at f1
      have HF : Hid (idxs (fun x => x == o) 0 (M.take (j + 1)) = idxs (fun x => x == o) 0 (M.take j) ++ (if M[j] == o then [j] else [])) := idxs_step _ M j hjM
      clear hb hP hcell e1 hx
      generalize M[j] = x at f1 HF
      by_cases hxo : x = o
      · subst hxo
        have HF2 : Hid (idxs (fun y => y == x) 0 (M.take (j + 1)) = idxs (fun y => y == x) 0 (M.take j) ++ [j]) := by
          have := HF.out
          rwa [if_pos (by simp)] at this
        have hbB : Below wr.heap.size wr (wr.alloc (.cells #[.int .i64 j] 3)) := (Below.refl _ _).alloc (Nat.le_refl _) _
        have HO : Hid ((wr.alloc (.cells #[.int .i64 j] 3)).ownsRow w.heap.size 3 1 u5 (natsI (idxs (fun y => y == x) 0 (M.take j))).length ((natsI (idxs (fun y => y == x) 0 (M.take j))).map (Value.int .i64))) := HI.out.1.below hbB
        have HB : Hid (Below w.heap.size w (wr.alloc (.cells #[.int .i64 j] 3))) := HI.out.2.trans (hbB.mono HI.out.2.size)
        have hal : (natsI (idxs (fun y => y == x) 0 (M.take j))).length ≤ 1000 := by
          rw [natsI_length]
          have := idxs_length_le (fun y => y == x) (M.take j) 0
          rw [List.length_take] at this
          omega
        have hq2 : (natsI (idxs (fun y => y == x) 0 (M.take j))).length + 1 ≤ maxLen := by unfold maxLen; omega
        have hq3 : ((natsI (idxs (fun y => y == x) 0 (M.take j))).length + 1) * 8 ≤ 140737488355328 := by omega
        have hq4 : w.heap.size ≤ (wr.alloc (.cells #[.int .i64 j] 3)).heap.size := HB.out.size
        clear hbB HI HF hal
        go_wp2_with (at_builtin; refine wpList_append_own _ rfl _ _ 33 rfl w.heap.size 3 i0 (.int .i64 0) 1 8 Tryz.underlying33 hi hz0 hz1 hz2 rfl (by decide) _ _ _ rfl HO.out ⟨wr.heap.size, 0, none⟩ 1 1 [.int .i64 j] rfl rfl (one_newW _ _ _ _) (fun u hu => by cases hu with | head => rfl | tail _ h => cases h) hq2 hq3 hq4 ?_)
        intro v1 w5 hown1 hg1 hnil1
        have HN : Hid (ROfI x M (j + 1) v1 w w5) := by
          refine ⟨?_, HB.out.grown hg1 hq4 (fun k e => ownsRow_low HO.out k e)⟩
          rw [HF2.out]
          unfold IntsR
          rw [show natsI (idxs (fun y => y == x) 0 (M.take j) ++ [j]) = natsI (idxs (fun y => y == x) 0 (M.take j)) ++ [(j : Int)] by simp [natsI], List.length_append, List.map_append]
          exact hown1
        clear hown1 hg1 hnil1 HO HB hq2 hq3 hq4 HF2
        go_wp2_with fail
        exact ⟨⟨j + 1, hlt, rfl, HN⟩, by simp [RowKit.intOf]; omega⟩
      · have HN : Hid (ROfI o M (j + 1) u5 w wr) := by
          refine ⟨?_, HI.out.2⟩
          rw [HF.out, if_neg (by simpa using hxo), List.append_nil]
          exact HI.out.1
        have hxo' : (x == o) = false := by simpa using hxo
        clear HI HF
        go_wp2_with fail
        exact ⟨⟨j + 1, hlt, rfl, HN⟩, by simp [RowKit.intOf]; omega⟩
    · obtain rfl : j = n := by omega
      have HN : Hid (IntsR wr w.heap.size u5 (natsI (idxs (fun x => x == o) 0 M)) ∧ Below w.heap.size w wr) := by
        have := HI.out
        unfold ROfI at this
        rw [← HN.out, List.take_length] at this
        exact this
      clear HI
      go_wp2_with fail
      go_ret
      exact ⟨_, rfl, HN.out.1, HN.out.2⟩
theorem rfree_at {w : World} {lo rb : Nat} {v : Value} {M : List Int} (h : RefAt w lo rb v M) :
    Calls Tryz.prog 18 #[.pointer (some ⟨rb, 0, none⟩)] w fun e w' => e = .returned (.int .i64 ((idxs (fun x => x == nobody) 0 M).length : Nat)) ∧ Below w.heap.size w w' := by
  have hR := rof_at h nobody
  unfold nobody at hR
  go_enter Tryz.func18, Tryz.ntmps18
  go_wp2_with fail
  refine hR.mono ?_
  rintro e w1 ⟨v', rfl, hv, hb⟩
  obtain ⟨p, c, rfl, _⟩ := hv.shape
  rw [natsI_length]
  go_wp2_with fail
  go_ret
  exact ⟨rfl, hb⟩
end Go.Proofs.YteehcffmccgciaaGreatDoor

namespace Go.Proofs.YteehcffmccgciaaGreatDoor
open Go.RowKit Go.Maps

def encO (x : Option Int) : Int := x.getD nobody
theorem idxs_owner (L : List (Option Int)) (o : Int) (ho : o ≠ nobody) : idxs (fun x => x == o) 0 (L.map encO) = ofL L o := by
  refine idxs_map _ _ encO L 0 (fun x _ => ?_)
  cases x with
  | none => simp [encO, isO, Ne.symm ho]
  | some y => simp [encO, isO]
theorem idxs_free (L : List (Option Int)) (h : ∀ x, some x ∈ L → x ≠ nobody) : idxs (fun x => x == nobody) 0 (L.map encO) = idxs (fun x => x.isNone) 0 L := by
  refine idxs_map _ _ encO L 0 (fun x hx => ?_)
  cases x with
  | none => simp [encO]
  | some y => simp [encO, h y hx]
/-- A cell of the reference's pool is written. -/
theorem RefAt.set {w : World} {lo rb g n c : Nat} {M : List Int} (h : RefAt w lo rb (.slice (some ⟨g, 0, none⟩) n c) M) (hn : M.length = n) (i : Nat) (x : Int) : RefAt (w.setCell ⟨g, i, none⟩ (.int .i64 x)) lo rb (.slice (some ⟨g, 0, none⟩) n c) (M.set i x) := by
  have hgr : g ≠ rb := fun e => h.ne (by rw [e]; rfl)
  refine { c0 := ?_, f0 := ?_, own := ?_, ne := h.ne, n1 := by rw [List.length_set]; exact h.n1 }
  · rw [World.cell?_setCell_other _ _ _ _ (fun e => hgr (by simpa using congrArg Addr.block e))]; exact h.c0
  · rw [World.frozen?_setCell]; exact h.f0
  · have ho : w.ownsRow lo 3 1 (.slice (some ⟨g, 0, none⟩) n c) n (M.map (Value.int .i64)) := by have := h.own; unfold IntsR at this; rwa [hn] at this
    have := (ho.stored i (.int .i64 x)).1
    unfold IntsR
    rw [List.length_set, hn, List.map_set]
    exact this
theorem setCell_keeps {w wr : World} {g i : Nat} {x : Value} (hk : Keeps (fun j => j = g) w wr) : Keeps (fun j => j = g) w (wr.setCell ⟨g, i, none⟩ x) := hk.setCell rfl x
set_option maxRecDepth 100000 in
set_option maxHeartbeats 4000000 in
theorem rsize_at {w : World} {lo rb n c : Nat} {p : Option Addr} {L : List (Option Int)} (h : RefAt w lo rb (.slice p n c) (L.map encO)) (hn : L.length = n) (hL : ∀ x, some x ∈ L → x ≠ nobody) (o k : Int) (ho : o ≠ nobody) (hk : -9223372036854775808 ≤ k ∧ k ≤ 9223372036854775807) :
    Calls Tryz.prog 16 #[.pointer (some ⟨rb, 0, none⟩), .int .i64 o, .int .i64 k] w fun e w' => e = .returned (.int .i64 (sizeL L o k).2) ∧ RefAt w' lo rb (.slice p n c) ((sizeL L o k).1.map encO) ∧ Keeps (fun i => ∃ q, p = some q ∧ q.block = i) w w' := by
  have hn1 := h.n1
  rw [List.length_map] at hn1
  have HP : Hid (RefAt w lo rb (.slice p n c) (L.map encO)) := h
  have HO : Hid (idxs (fun x => x == o) 0 (L.map encO) = ofL L o) := idxs_owner L o ho
  have HE : Hid (idxs (fun x => x == nobody) 0 (L.map encO) = idxs (fun x => x.isNone) 0 L) := idxs_free L hL
  clear h hL ho
  by_cases h0 : k < 0
  · rw [sizeL_below h0]
    go_enter Tryz.func16, Tryz.ntmps16
    go_wp2_with fail
    go_ret
    exact ⟨rfl, HP.out, Keeps.refl _ _⟩
  · go_enter Tryz.func16, Tryz.ntmps16
    go_wp2_with fail
    refine (rof_at HP.out o).mono ?_
    rintro e w1 ⟨v1, rfl, hv1, hb1⟩
    rw [HO.out] at hv1
    obtain ⟨p1, c1, rfl, _⟩ := hv1.shape
    have HP1 : Hid (RefAt w1 lo rb (.slice p n c) (L.map encO)) := HP.out.below hb1
    have HV1 : Hid (IntsR w1 w.heap.size (.slice p1 (natsI (ofL L o)).length c1) (natsI (ofL L o))) := hv1
    have HB1 : Hid (Below w.heap.size w w1) := hb1
    have HA : Hid ((natsI (ofL L o)).length = (ofL L o).length) := natsI_length _
    have ha : (natsI (ofL L o)).length ≤ 1000 := by rw [natsI_length]; have := ofL_len L o; omega
    have hf : frees L ≤ 1000 := by have := frees_le L; omega
    clear hv1 hb1
    generalize ha' : (natsI (ofL L o)).length = a at *
    by_cases hka : k ≤ a
    · obtain ⟨q, rfl⟩ : ∃ q : Nat, k = q := ⟨k.toNat, by omega⟩
      have HS : Hid ((sizeL L o q).1 = sets none ((ofL L o).drop q) L ∧ (sizeL L o q).2 = 0) := by
        have e := HA.out
        unfold sizeL
        rw [if_neg (by omega), if_neg (by omega)]
        by_cases hl : q < (ofL L o).length
        · rw [if_pos (by omega)]; exact ⟨rfl, rfl⟩
        · rw [if_neg (by omega), show (q : Int).toNat - (ofL L o).length = 0 by omega, takeL_zero, List.drop_of_length_le (by omega)]; exact ⟨rfl, rfl⟩
      have HI0 : Hid (RefAt w1 lo rb (.slice p n c) (sets nobody (((ofL L o).drop q).take (q - q)) (L.map encO)) ∧ Keeps (fun i => ∃ z, p = some z ∧ z.block = i) w w1) := by
        rw [Nat.sub_self]
        exact ⟨HP1.out, Keeps.of_below HB1.out⟩
      have hqa : q ≤ a := by omega
      go_wp2_with fail
      go_loopw [8] (fun s8 wr => ∃ j : Nat, q ≤ j ∧ j ≤ a ∧ s8 = .int .i64 j ∧ Hid (RefAt wr lo rb (.slice p n c) (sets nobody (((ofL L o).drop q).take (j - q)) (L.map encO)) ∧ Keeps (fun i => ∃ z, p = some z ∧ z.block = i) w wr ∧ Keeps (fun i => ∃ z, p = some z ∧ z.block = i) w1 wr)) (fun s8 _ => a - (RowKit.intOf s8).toNat)
      case atStart => exact ⟨q, Nat.le_refl _, hqa, rfl, HI0.out.1, HI0.out.2, Keeps.refl _ _⟩
      case round =>
        clear HI0
        obtain ⟨j, hj0, hj, rfl, HI⟩ := hrel
        by_cases hlt : j < a
        · obtain ⟨gh, c', e1, _, hg1, hg2, hcell⟩ := HV1.out.at_ (by omega)
          rw [ha'] at e1
          obtain ⟨rfl, rfl⟩ : p1 = some ⟨gh, 0, none⟩ ∧ c1 = c' := by injection e1 with x y z; exact ⟨x, z⟩
          have hM := HI.out.1
          have hjo : j < (ofL L o).length := by have := HA.out; omega
          have hxl : (ofL L o)[j] < L.length := ofL_lt (List.getElem_mem hjo)
          have hlen : (sets nobody (((ofL L o).drop q).take (j - q)) (L.map encO)).length = n := by rw [sets_length, List.length_map, hn]
          obtain ⟨g, c2, e2, _, hgl, _, hcell2⟩ := hM.own.at_ (by omega)
          rw [hlen] at e2
          obtain ⟨rfl, rfl⟩ : p = some ⟨g, 0, none⟩ ∧ c = c2 := by injection e2 with x y z; exact ⟨x, z⟩
          have hgw : g < w.heap.size := by
            have := HP.out.own
            obtain ⟨g', c3, e3, _, _, hgs, _⟩ := this.at_ (by rw [List.length_map]; omega)
            injection e3 with x y z
            injection x with x
            injection x with x
            omega
          have f0 := hM.c0
          have f1 := (HI.out.2.2.cell (p := ⟨gh, j, none⟩) hg2 (by rintro ⟨z, ez, ez2⟩; injection ez with ez; subst ez; simp at ez2; omega)).trans (hcell j (by omega))
          rw [natsI_getD] at f1
          have hx : (ofL L o).getD j 0 = (ofL L o)[j] := by simp [List.getD, hjo]
          rw [hx] at f1
          have f2 := hcell2 (ofL L o)[j] (by omega)
          have f3 : wr.frozen? ⟨g, (ofL L o)[j], none⟩ = false := by
            have ho := hM.own
            unfold IntsR at ho
            rw [hlen] at ho
            exact ho.frozenAt _
          have hgr : g ≠ rb := fun e => hM.ne (by rw [e]; rfl)
          have HN : Hid (RefAt (wr.setCell ⟨g, (ofL L o)[j], none⟩ (.int .i64 nobody)).drew lo rb (.slice (some ⟨g, 0, none⟩) n c) (sets nobody (((ofL L o).drop q).take (j + 1 - q)) (L.map encO)) ∧ Keeps (fun i => ∃ z : Addr, some (⟨g, 0, none⟩ : Addr) = some z ∧ z.block = i) w (wr.setCell ⟨g, (ofL L o)[j], none⟩ (.int .i64 nobody)).drew ∧ Keeps (fun i => ∃ z : Addr, some (⟨g, 0, none⟩ : Addr) = some z ∧ z.block = i) w1 (wr.setCell ⟨g, (ofL L o)[j], none⟩ (.int .i64 nobody)).drew) := by
            refine ⟨?_, Keeps.drew (Keeps.setCell (p := ⟨g, (ofL L o)[j], none⟩) HI.out.2.1 ⟨_, rfl, rfl⟩ _), Keeps.drew (Keeps.setCell (p := ⟨g, (ofL L o)[j], none⟩) HI.out.2.2 ⟨_, rfl, rfl⟩ _)⟩
            rw [show j + 1 - q = (j - q) + 1 by omega, sets_take nobody _ _ (j - q) (by rw [List.length_drop]; omega)]
            have : ((ofL L o).drop q)[j - q]'(by rw [List.length_drop]; omega) = (ofL L o)[j] := by
              rw [List.getElem_drop]; congr 1; omega
            rw [this]
            exact (hM.set hlen _ _).keeps (Keeps.drew (Keeps.refl (fun _ => False) _)) (fun e => e) (fun _ _ e => e)
          generalize (ofL L o)[j] = x at *
          have hxn : x < n := by omega
          have hghg : gh ≠ g := by omega
          clear hM HI hcell hcell2 e1 e2 hx hlen hjo
          generalize (sets nobody (((ofL L o).drop q).take (j - q)) (L.map encO)).getD x 0 = y at f2
          unfold nobody at HN
          go_wp2_with fail
          go_still_tail 9, follows
          go_wp2_with fail
          exact ⟨⟨j + 1, by omega, hlt, rfl, HN⟩, by simp [RowKit.intOf]; omega⟩
        · obtain rfl : j = a := by omega
          have HM : Hid (RefAt wr lo rb (.slice p n c) ((sizeL L o q).1.map encO) ∧ Keeps (fun i => ∃ z, p = some z ∧ z.block = i) w wr) := by
            refine ⟨?_, HI.out.2.1⟩
            have := HI.out.1
            rw [List.take_of_length_le (by rw [List.length_drop, ← HA.out]; exact Nat.le_refl _)] at this
            rw [HS.out.1, ← sets_map]
            exact this
          clear HI
          have hR := rof_at HM.out.1 nobody
          unfold nobody at hR
          go_wp2_with fail
          refine hR.mono ?_
          rintro e w3 ⟨v3, rfl, hv3, hb3⟩
          have HN : Hid (RefAt w3 lo rb (.slice p n c) ((sizeL L o q).1.map encO) ∧ Keeps (fun i => ∃ z, p = some z ∧ z.block = i) w w3) := ⟨HM.out.1.below hb3, HM.out.2.trans (Keeps.of_below hb3)⟩
          clear HM hR hb3 hv3
          have hz : ¬ ((0 : Int) < q - j) := by omega
          go_wp2_with fail
          go_loopw [10] (fun s10 wr => s10 = .int .i64 0 ∧ Hid (RefAt wr lo rb (.slice p n c) ((sizeL L o q).1.map encO) ∧ Keeps (fun i => ∃ z, p = some z ∧ z.block = i) w wr)) (fun s10 _ => 0)
          case atStart => exact ⟨rfl, HN⟩
          case round =>
            obtain ⟨rfl, HN⟩ := hrel
            go_wp2_with fail
            go_ret
            rw [HS.out.2]
            exact ⟨rfl, HN.out⟩
    · have hF := rfree_at HP1.out
      rw [HE.out, idxs_length] at hF
      have HA2 : Hid ((ofL L o).length = a) := HA.out.symm
      have HFr : Hid (L.countP (fun x => x.isNone) = frees L) := rfl
      rw [HFr.out] at hF
      generalize hff : frees L = f at *
      have HFf : Hid (frees L = f) := hff
      clear hff HV1
      go_wp2_with fail
      refine hF.mono ?_
      rintro e w2 ⟨rfl, hb2⟩
      have HP2 : Hid (RefAt w2 lo rb (.slice p n c) (L.map encO)) := HP1.out.below hb2
      have HB2 : Hid (Below w.heap.size w w2) := HB1.out.trans (hb2.mono HB1.out.size)
      clear hF hb2 HP1 HB1
      by_cases hc : (a : Int) + f < k
      · have HS : Hid (sizeL L o k = (L, 6)) := sizeL_many (by rw [HA2.out, HFf.out]; omega)
        go_wp2_with fail
        go_ret
        rw [HS.out]
        exact ⟨rfl, HP2.out, Keeps.of_below HB2.out⟩
      · obtain ⟨q, hq⟩ : ∃ q : Nat, k - a = q := ⟨(k - a).toNat, by omega⟩
        have HS : Hid ((sizeL L o k).1.map encO = sets o ((idxs (fun x => x.isNone) 0 L).take q) (L.map encO) ∧ (sizeL L o k).2 = 0) := by
          unfold sizeL
          rw [if_neg (by omega), if_neg (by rw [HA2.out, HFf.out]; omega), if_neg (by rw [HA2.out]; omega)]
          rw [show k.toNat - (ofL L o).length = q by rw [HA2.out]; omega]
          refine ⟨?_, rfl⟩
          show (takeL o q L).map encO = _
          rw [takeL_sets]
          exact (sets_map encO (some o) _ L).symm
        have hR := rof_at HP2.out nobody
        rw [HE.out] at hR
        unfold nobody at hR
        have HR : Hid (Calls Tryz.prog 20 #[.pointer (some ⟨rb, 0, none⟩), .int .i64 (-9223372036854775808)] w2 fun e w' => ∃ v', e = .returned v' ∧ IntsR w' w2.heap.size v' (natsI (idxs (fun x => x.isNone) 0 L)) ∧ Below w2.heap.size w2 w') := hR
        have HFl : Hid ((natsI (idxs (fun x => x.isNone) 0 L)).length = f) := by
          show _ = _
          rw [natsI_length, idxs_length]; exact HFf.out
        have hqf : q ≤ f := by omega
        clear hR HA HFr
        go_wp2_with fail
        go_loopw [8] (fun s8 wr => s8 = .int .i64 k ∧ Hid (wr = w2)) (fun s8 _ => 0)
        case atStart => exact ⟨rfl, rfl⟩
        case round =>
          obtain ⟨rfl, hwr⟩ := hrel
          have hwr' := hwr.out
          subst hwr'
          clear hwr
          go_wp2_with fail
          refine HR.out.mono ?_
          rintro e w3 ⟨v3, rfl, hv3, hb3⟩
          obtain ⟨p3, c3, rfl, _⟩ := hv3.shape
          have HV3 : Hid (IntsR w3 wr.heap.size (.slice p3 (natsI (idxs (fun x => x.isNone) 0 L)).length c3) (natsI (idxs (fun x => x.isNone) 0 L))) := hv3
          have HI0 : Hid (RefAt w3 lo rb (.slice p n c) (sets o ((idxs (fun x => x.isNone) 0 L).take 0) (L.map encO)) ∧ Keeps (fun i => ∃ z, p = some z ∧ z.block = i) w w3 ∧ Keeps (fun i => ∃ z, p = some z ∧ z.block = i) w3 w3) :=
            ⟨HP2.out.below hb3, (Keeps.of_below HB2.out).trans (Keeps.of_below hb3), Keeps.refl _ _⟩
          rw [HFl.out] at HV3 ⊢
          have hws : w.heap.size ≤ wr.heap.size := HB2.out.size
          clear hv3 hb3 HR HP2 HB2
          go_wp2_with fail
          go_loopw [10] (fun s10 wx => ∃ j : Nat, j ≤ q ∧ s10 = .int .i64 j ∧ Hid (RefAt wx lo rb (.slice p n c) (sets o ((idxs (fun x => x.isNone) 0 L).take j) (L.map encO)) ∧ Keeps (fun i => ∃ z, p = some z ∧ z.block = i) w wx ∧ Keeps (fun i => ∃ z, p = some z ∧ z.block = i) w3 wx)) (fun s10 _ => q - (RowKit.intOf s10).toNat)
          case atStart => exact ⟨0, Nat.zero_le _, rfl, HI0⟩
          case round =>
            clear HI0
            obtain ⟨j, hj, rfl, HI⟩ := hrel
            by_cases hlt : j < q
            · obtain ⟨gh, c', e1, _, hg1, hg2, hcell⟩ := HV3.out.at_ (by rw [HFl.out]; omega)
              rw [HFl.out] at e1 hcell
              obtain ⟨rfl, rfl⟩ : p3 = some ⟨gh, 0, none⟩ ∧ c3 = c' := by injection e1 with x y z; exact ⟨x, z⟩
              have hM := HI.out.1
              have hjo : j < (idxs (fun x => x.isNone) 0 L).length := by have := HFl.out; rw [natsI_length] at this; omega
              have hxl : (idxs (fun x => x.isNone) 0 L)[j] < L.length := by
                have := idxs_ge _ _ _ _ (List.getElem_mem hjo)
                omega
              have hlen : (sets o ((idxs (fun x => x.isNone) 0 L).take j) (L.map encO)).length = n := by rw [sets_length, List.length_map, hn]
              obtain ⟨g, c2, e2, _, hgl, _, hcell2⟩ := hM.own.at_ (by omega)
              rw [hlen] at e2
              obtain ⟨rfl, rfl⟩ : p = some ⟨g, 0, none⟩ ∧ c = c2 := by injection e2 with x y z; exact ⟨x, z⟩
              have hgw : g < w.heap.size := by
                have := HP.out.own
                obtain ⟨g', c4, e3, _, _, hgs, _⟩ := this.at_ (by rw [List.length_map]; omega)
                injection e3 with x y z
                injection x with x
                injection x with x
                omega
              have f0 := hM.c0
              have f1 := (HI.out.2.2.cell (p := ⟨gh, j, none⟩) hg2 (by rintro ⟨z, ez, ez2⟩; injection ez with ez; subst ez; simp at ez2; omega)).trans (hcell j (by omega))
              rw [natsI_getD] at f1
              have hx : (idxs (fun x => x.isNone) 0 L).getD j 0 = (idxs (fun x => x.isNone) 0 L)[j] := by simp [List.getD, hjo]
              rw [hx] at f1
              have f2 := hcell2 (idxs (fun x => x.isNone) 0 L)[j] (by omega)
              have f3 : wr.frozen? ⟨g, (idxs (fun x => x.isNone) 0 L)[j], none⟩ = false := by
                have ho := hM.own
                unfold IntsR at ho
                rw [hlen] at ho
                exact ho.frozenAt _
              have hgr : g ≠ rb := fun e => hM.ne (by rw [e]; rfl)
              have HN : Hid (RefAt (wr.setCell ⟨g, (idxs (fun x => x.isNone) 0 L)[j], none⟩ (.int .i64 o)).drew lo rb (.slice (some ⟨g, 0, none⟩) n c) (sets o ((idxs (fun x => x.isNone) 0 L).take (j + 1)) (L.map encO)) ∧ Keeps (fun i => ∃ z : Addr, some (⟨g, 0, none⟩ : Addr) = some z ∧ z.block = i) w (wr.setCell ⟨g, (idxs (fun x => x.isNone) 0 L)[j], none⟩ (.int .i64 o)).drew ∧ Keeps (fun i => ∃ z : Addr, some (⟨g, 0, none⟩ : Addr) = some z ∧ z.block = i) w3 (wr.setCell ⟨g, (idxs (fun x => x.isNone) 0 L)[j], none⟩ (.int .i64 o)).drew) := by
                refine ⟨?_, Keeps.drew (Keeps.setCell (p := ⟨g, (idxs (fun x => x.isNone) 0 L)[j], none⟩) HI.out.2.1 ⟨_, rfl, rfl⟩ _), Keeps.drew (Keeps.setCell (p := ⟨g, (idxs (fun x => x.isNone) 0 L)[j], none⟩) HI.out.2.2 ⟨_, rfl, rfl⟩ _)⟩
                rw [sets_take o _ _ j hjo]
                exact (hM.set hlen _ _).keeps (Keeps.drew (Keeps.refl (fun _ => False) _)) (fun e => e) (fun _ _ e => e)
              generalize (idxs (fun x => x.isNone) 0 L)[j] = x at *
              have hxn : x < n := by omega
              have hghg : gh ≠ g := by omega
              clear hM HI hcell hcell2 e1 e2 hx hlen hjo
              generalize (sets o ((idxs (fun x => x.isNone) 0 L).take j) (L.map encO)).getD x 0 = y at f2
              have hjf : j < f := by omega
              go_wp2_with fail
              go_still_tail 10, follows
              go_wp2_with fail
              exact ⟨⟨j + 1, hlt, rfl, HN⟩, by simp [RowKit.intOf]; omega⟩
            · obtain rfl : j = q := by omega
              have HN : Hid (RefAt wr lo rb (.slice p n c) ((sizeL L o k).1.map encO) ∧ Keeps (fun i => ∃ z, p = some z ∧ z.block = i) w wr) := by
                rw [HS.out.1]
                exact ⟨HI.out.1, HI.out.2.1⟩
              clear HI
              go_wp2_with fail
              go_ret
              rw [HS.out.2]
              exact ⟨rfl, HN.out⟩
end Go.Proofs.YteehcffmccgciaaGreatDoor

namespace Go.Proofs.YteehcffmccgciaaGreatDoor
open Go.RowKit Go.Maps

/-- A reference's pool that is being laid: its block, the list of owners. -/
def RNew (w : World) (lo rb : Nat) (v : Value) (j : Nat) : Prop := w.heap[rb]? = some (.cells #[v] 85) ∧ IntsR w lo v (List.replicate j nobody) ∧ v.ownBlock ≠ some rb ∧ lo ≤ rb
set_option maxRecDepth 100000 in
set_option maxHeartbeats 2000000 in
theorem rnew_at (n : Int) (w : World) : Calls Tryz.prog 14 #[.int .i64 n] w fun e w' => ∃ rb p c, e = .returned (.pointer (some ⟨rb, 0, none⟩)) ∧ RefAt w' w.heap.size rb (.slice p (poolN n) c) ((List.replicate (poolN n) (none : Option Int)).map encO) ∧ w.heap.size ≤ rb ∧ Below w.heap.size w w' := by
  have hp : max 0 (min n 1000) = (poolN n : Int) := by unfold poolN; omega
  have hle := poolN_le n
  obtain ⟨i0, hi, hz0, hz1, hz2⟩ := info_parts infoInt
  generalize hm : poolN n = m at *
  go_enter Tryz.func14, Tryz.ntmps14
  go_wp2_with fail
  have HI0 : Hid (RNew (w.alloc (.cells #[.slice none 0 0] 85)) w.heap.size w.heap.size (.slice none 0 0) 0 ∧ Below w.heap.size w (w.alloc (.cells #[.slice none 0 0] 85))) :=
    ⟨⟨heap_alloc_last w _, IntsR.nil _ _, by simp [Value.ownBlock], Nat.le_refl _⟩, (Below.refl _ w).alloc (Nat.le_refl _) _⟩
  go_loopw [4] (fun s4 wr => ∃ (j : Nat) (v : Value), j ≤ m ∧ s4 = .int .i64 j ∧ Hid (RNew wr w.heap.size w.heap.size v j ∧ Below w.heap.size w wr)) (fun s4 _ => m - (RowKit.intOf s4).toNat)
  case atStart => exact ⟨0, _, Nat.zero_le _, rfl, HI0⟩
  case round =>
    clear HI0
    obtain ⟨j, v, hj, rfl, HI⟩ := hrel
    have c0 : wr.cell? ⟨w.heap.size, 0, none⟩ = some v := by rw [cell_of_row _ _ 0 _ 85 (0, 0) HI.out.1.1]; rfl
    by_cases hlt : j < m
    · have hlj : (List.replicate j nobody).length = j := List.length_replicate
      have hbB : Below wr.heap.size wr (wr.alloc (.cells #[.int .i64 nobody] 3)) := (Below.refl _ _).alloc (Nat.le_refl _) _
      have HO : Hid ((wr.alloc (.cells #[.int .i64 nobody] 3)).ownsRow w.heap.size 3 1 v j ((List.replicate j nobody).map (Value.int .i64))) := by
        have := HI.out.1.2.1.below hbB
        unfold IntsR at this
        rwa [hlj] at this
      have HB : Hid (Below w.heap.size w (wr.alloc (.cells #[.int .i64 nobody] 3))) := HI.out.2.trans (hbB.mono HI.out.2.size)
      have HR : Hid ((wr.alloc (.cells #[.int .i64 nobody] 3)).heap[w.heap.size]? = some (.cells #[v] 85)) := (hbB.block _ (Array.getElem?_eq_some_iff.1 HI.out.1.1).1).trans HI.out.1.1
      have HW : Hid (v.ownBlock ≠ some w.heap.size) := HI.out.1.2.2.1
      have hq2 : j + 1 ≤ maxLen := by unfold maxLen; omega
      have hq3 : (j + 1) * 8 ≤ 140737488355328 := by omega
      have hq4 : w.heap.size ≤ (wr.alloc (.cells #[.int .i64 nobody] 3)).heap.size := HB.out.size
      have hws : w.heap.size < wr.heap.size := (Array.getElem?_eq_some_iff.1 HI.out.1.1).1
      unfold nobody at HO HB HR hq4
      clear hbB HI hlj
      go_wp2_with (at_builtin; refine wpList_append_own _ rfl _ _ 33 rfl w.heap.size 3 i0 (.int .i64 0) 1 8 Tryz.underlying33 hi hz0 hz1 hz2 rfl (by decide) _ j _ rfl HO.out ⟨wr.heap.size, 0, none⟩ 1 1 [.int .i64 (-9223372036854775808)] rfl rfl (one_newW _ _ _ _) (fun u hu => by cases hu with | head => rfl | tail _ h => cases h) hq2 hq3 hq4 ?_)
      intro v1 w5 hown1 hg1 hnil1
      have hR5 : w5.heap[w.heap.size]? = some (.cells #[v] 85) := (hg1.block _ (by simp; omega) (fun e => HW.out e.symm)).trans HR.out
      have c1 : w5.cell? ⟨w.heap.size, 0, none⟩ = some v := by rw [cell_of_row _ _ 0 _ 85 (0, 0) hR5]; rfl
      have z1 : w5.frozen? ⟨w.heap.size, 0, none⟩ = false := frozen_of_row _ _ 0 _ 85 hR5
      have hne1 : v1.ownBlock ≠ some w.heap.size := by
        intro e
        rcases hown1.2 with ⟨rfl, _⟩ | ⟨g, cap, cur, rfl, _, hH, _⟩
        · cases e
        · have e' : g = w.heap.size := by simpa [Value.ownBlock] using e
          rw [e', hR5] at hH
          cases hH
      have hg5 : Below w.heap.size w w5 := HB.out.grown hg1 hq4 (fun k e => ownsRow_low HO.out k e)
      have HN : Hid (RNew (w5.setCell ⟨w.heap.size, 0, none⟩ v1) w.heap.size w.heap.size v1 (j + 1) ∧ Below w.heap.size w (w5.setCell ⟨w.heap.size, 0, none⟩ v1)) := by
        refine ⟨⟨?_, ?_, hne1, Nat.le_refl _⟩, ?_⟩
        · have := heap_setCell_same w5 w.heap.size 0 #[v] 85 v1 hR5
          simpa using this
        · have := ownsRow_setCell_other hown1 (a := ⟨w.heap.size, 0, none⟩) hne1 v1
          unfold IntsR
          rw [List.length_replicate, List.replicate_succ', List.map_append, List.map_replicate]
          exact this
        · have hk := (Keeps.refl (fun i => i = w.heap.size) w5).setCell (p := ⟨w.heap.size, 0, none⟩) rfl v1
          exact hg5.trans (hk.below hg5.size (fun i e => by omega))
      obtain ⟨p1, n1, cc1, hsh⟩ : ∃ p1 n1 cc1, v1 = .slice p1 n1 cc1 := by
        rcases hown1.2 with ⟨rfl, _⟩ | ⟨g, cap, cur, rfl, _⟩
        · exact ⟨_, _, _, rfl⟩
        · exact ⟨_, _, _, rfl⟩
      subst hsh
      clear hown1 hg1 hnil1 HO HB hq2 hq3 hq4 HR HW hR5 hne1 hg5
      go_wp2_with fail
      exact ⟨⟨j + 1, _, hlt, rfl, HN⟩, by simp [RowKit.intOf]; omega⟩
    · obtain rfl : j = m := by omega
      obtain ⟨p1, cc1, hsh, _⟩ := HI.out.1.2.1.shape
      have HN : Hid (∃ c, RefAt wr w.heap.size w.heap.size (.slice p1 j c) ((List.replicate j (none : Option Int)).map encO) ∧ Below w.heap.size w wr) := by
        have hl : (List.replicate j nobody).length = j := List.length_replicate
        rw [hl] at hsh
        refine ⟨cc1, { c0 := by rw [c0, hsh], f0 := frozen_of_row _ _ 0 _ 85 HI.out.1.1, own := ?_, ne := by rw [← hsh]; exact HI.out.1.2.2.1, n1 := by simp; omega }, HI.out.2⟩
        rw [List.map_replicate, ← hsh]
        exact HI.out.1.2.1
      clear HI c0 hsh
      go_wp2_with fail
      go_ret
      obtain ⟨c, h1, h2⟩ := HN.out
      exact ⟨_, _, c, rfl, h1, Nat.le_refl _, h2⟩
end Go.Proofs.YteehcffmccgciaaGreatDoor
