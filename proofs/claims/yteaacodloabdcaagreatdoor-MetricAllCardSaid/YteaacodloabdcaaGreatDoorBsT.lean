import Derived.Test.YteaacodloabdcaaGreatDoorBsM
import Derived.Test.YteaacodloabdcaaGreatDoorSrt
namespace Go.Proofs.YteaacodloabdcaaGreatDoor
open Go.RowKit Go.Maps Go.Sort Go.Lib

theorem cmp_at (x y : Hit) (W : World) : Calls Tryz.prog 56 #[.agg (hitC x).toArray, .agg (hitC y).toArray] W fun e w' => e = .returned (.int .i64 (cmpH x y)) ∧ ∃ q os', w' = grow (W.drewN q) os' := by
  obtain ⟨a1, a2⟩ := x
  obtain ⟨b1, b2⟩ := y
  have h1 := fun W' => less_at (a1, a2) (b1, b2) W'
  have h2 := fun W' => less_at (b1, b2) (a1, a2) W'
  unfold hitC cmpH
  unfold hitV boxed at h1 h2
  generalize lessH (a1, a2) (b1, b2) = l1 at *
  generalize lessH (b1, b2) (a1, a2) = l2 at *
  cases l1 with
  | true =>
    go_enter Tryz.func56, Tryz.ntmps56
    go_wp2_with fail
    refine (h1 _).mono ?_
    rintro e w' ⟨rfl, rfl⟩
    go_wp2_with fail
    go_ret
    exact ⟨rfl, 0, _, by rw [alloc_eq_grow, alloc_eq_grow, alloc_eq_grow, alloc_eq_grow, grow_grow, grow_grow, grow_grow]; rfl⟩
  | false =>
    cases l2 with
    | true =>
      go_enter Tryz.func56, Tryz.ntmps56
      go_wp2_with fail
      refine (h1 _).mono ?_
      rintro e w' ⟨rfl, rfl⟩
      go_wp2_with fail
      refine (h2 _).mono ?_
      rintro e w' ⟨rfl, rfl⟩
      go_wp2_with fail
      go_ret
      exact ⟨rfl, 0, _, by rw [alloc_eq_grow, alloc_eq_grow, alloc_eq_grow, alloc_eq_grow, alloc_eq_grow, alloc_eq_grow, grow_grow, grow_grow, grow_grow, grow_grow, grow_grow]; rfl⟩
    | false =>
      go_enter Tryz.func56, Tryz.ntmps56
      go_wp2_with fail
      refine (h1 _).mono ?_
      rintro e w' ⟨rfl, rfl⟩
      go_wp2_with fail
      refine (h2 _).mono ?_
      rintro e w' ⟨rfl, rfl⟩
      go_wp2_with fail
      go_ret
      exact ⟨rfl, 0, _, by rw [alloc_eq_grow, alloc_eq_grow, alloc_eq_grow, alloc_eq_grow, alloc_eq_grow, alloc_eq_grow, grow_grow, grow_grow, grow_grow, grow_grow, grow_grow]; rfl⟩
theorem cmpH_lt (x y : Hit) : ltOf cmpH x y = lessH x y := by
  unfold ltOf
  exact cmpH_neg x y
theorem cmpH_swo : SWO (ltOf cmpH) := {
  irrefl := fun x => by rw [cmpH_lt]; exact lessH_irrefl x
  trans := fun x y z h1 h2 => by rw [cmpH_lt] at *; exact lessH_trans h1 h2
  ntrans := fun x y z h1 h2 => by rw [cmpH_lt] at *; exact noH_trans h1 h2 }
end Go.Proofs.YteaacodloabdcaaGreatDoor

namespace Go.Proofs.YteaacodloabdcaaGreatDoor
open Go.RowKit Go.Maps Go.Sort Go.Lib

/-- Hits that a call has made. -/
def HitsR (w : World) (lo : Nat) (v : Value) (W : List Hit) : Prop := w.ownsRow lo 25 2 v W.length (hitsV W)
theorem HitsR.keep {S : Nat → Prop} {w w' : World} {lo : Nat} {v : Value} {W : List Hit} (h : HitsR w lo v W) (hk : Keeps S w w') (hs : ∀ i, v.ownBlock = some i → ¬ S i) : HitsR w' lo v W := by
  refine ⟨h.1, ?_⟩
  rcases h.2 with q | ⟨g, cap, cur, hv, hb, hg, rest⟩
  · exact .inl q
  · exact .inr ⟨g, cap, cur, hv, hb, (hk.block g (Array.getElem?_eq_some_iff.1 hg).1 (hs g (by rw [hv]; rfl))).trans hg, rest⟩
theorem HitsR.below {w w' : World} {lo : Nat} {v : Value} {W : List Hit} (h : HitsR w lo v W) (hb : Below w.heap.size w w') : HitsR w' lo v W := h.keep (Keeps.of_below (S := fun _ => False) hb) (fun _ _ e => e)
theorem HitsR.at_ {w : World} {lo : Nat} {v : Value} {W : List Hit} (h : HitsR w lo v W) (j : Nat) (hj : j < W.length) : ∃ g c, v = .slice (some ⟨g, 0, none⟩) W.length c ∧ W.length ≤ c ∧ lo ≤ g ∧ g < w.heap.size ∧ w.cell? ⟨g, j * 2, none⟩ = some (.int .i64 (hat W j).1) ∧ w.cell? ⟨g, j * 2 + 1, none⟩ = some (.int .i64 (hat W j).2) ∧ ∀ o, w.frozen? ⟨g, o, none⟩ = false := by
  rcases h.2 with ⟨_, h1⟩ | ⟨g, cap, cur, rfl, hg, hH, hc, _, _, htk⟩
  · omega
  · obtain ⟨a, b⟩ := hitsV_at W j hj
    rw [← htk, List.getElem?_take, if_pos (by omega)] at a
    rw [← htk, List.getElem?_take, if_pos (by omega)] at b
    refine ⟨g, cap, rfl, hc, hg, (Array.getElem?_eq_some_iff.1 hH).1, ?_, ?_, fun o => frozen_of_row _ _ o _ 25 hH⟩
    · rw [cell_of_row _ _ (j * 2) _ 25 (0, 0) hH]; simpa using a
    · rw [cell_of_row _ _ (j * 2 + 1) _ 25 (0, 0) hH]; simpa using b
theorem HitsR.shape {w : World} {lo : Nat} {v : Value} {W : List Hit} (h : HitsR w lo v W) : ∃ p c, v = .slice p W.length c := by
  rcases h.2 with ⟨rfl, h0⟩ | ⟨g, cap, cur, rfl, _⟩
  · rw [h0]; exact ⟨none, 0, rfl⟩
  · exact ⟨_, _, rfl⟩
theorem elemHits : Tryz.prog.elem 52 = 25 := by kernel_rfl
set_option maxRecDepth 100000 in
set_option maxHeartbeats 1000000 in
/-- slices.Clone at hits. -/
theorem hclone_at {w : World} {lo bb : Nat} {v : Value} {H : List Hit} (h : RowAt w lo bb v H) (hl : H.length ≤ 1000000) :
    Calls Tryz.prog 54 #[v] w fun e w' => ∃ v', e = .returned v' ∧ HitsR w' w.heap.size v' H ∧ Below w.heap.size w w' := by
  obtain ⟨i0, hi, hz0, hz1, hz2⟩ := info_parts infoHit
  have q62 : ∀ (w : World) (a : Option Addr) (n c n' c' : Nat), (binOp .eql 52 (.slice a n c) (.slice none n' c')).run Tryz.prog w = .ok (.bool a.isNone) w := fun w a n c n' c' => Lib.run_eql_slice_nil w _ _ a n c n' c' Tryz.underlying52
  rcases h.row.2 with ⟨rfl, h0⟩ | ⟨g, cap, cur, rfl, hg, hH, hc, hcm, hcs, htk⟩
  · have hH0 : H = [] := List.eq_nil_of_length_eq_zero h0
    subst hH0
    clear h
    go_enter Tryz.func54, Tryz.ntmps54
    go_wp2_with fail
    go_ret
    exact ⟨_, rfl, World.ownsRow_nil _ _ _ _, Below.refl _ _⟩
  · have hlen : (hitsV H).length = H.length * 2 := hitsV_length H
    have A : Hid (∀ j u, (hitsV H)[j]? = some u → w.cell? ⟨g, j, none⟩ = some u) := by
      intro j u hu
      rw [← htk, List.getElem?_take] at hu
      split at hu
      · rw [cell_of_row _ _ j _ 25 (0, 0) hH]; simpa using hu
      · cases hu
    have HO : Hid (∀ u ∈ hitsV H, u.oneCell' = true) := by
      intro u hu
      simp only [hitsV, List.mem_flatMap, hitC] at hu
      obtain ⟨x, _, hx⟩ := hu
      rcases List.mem_cons.1 hx with rfl | hx
      · rfl
      · rcases List.mem_cons.1 hx with rfl | hx
        · rfl
        · cases hx
    have hbA : Below w.heap.size w (w.alloc (.cells #[] 25)) := (Below.refl _ w).alloc (Nat.le_refl _) _
    have hgl : g < w.heap.size := (Array.getElem?_eq_some_iff.1 hH).1
    clear h hH htk hcs hcm
    go_enter Tryz.func54, Tryz.ntmps54
    have hq4 : 0 + H.length ≤ maxLen := by unfold maxLen; omega
    have hq5 : (0 + H.length) * 16 ≤ 140737488355328 := by omega
    have hcell : ∀ j u, (hitsV H)[j]? = some u → (w.alloc (.cells #[] 25)).cell? (Addr.add ⟨g, 0, none⟩ j) = some u := by
      intro j u hj
      refine Lib.cell?_alloc_some _ ?_
      rw [Addr.add_mid, Nat.zero_add]
      exact A.out j u hj
    go_wp2_with (at_builtin; refine wpList_append_own _ rfl _ _ 52 rfl w.heap.size 25 i0 (.agg #[.int .i64 0, .int .i64 0]) 2 16 Tryz.underlying52 hi hz0 hz1 hz2 rfl (by decide) _ 0 _ rfl ⟨by rfl, .inr ⟨w.heap.size, 0, _, rfl, Nat.le_refl _, heap_alloc_new w _, Nat.le_refl _, by unfold maxLen; omega, rfl, rfl⟩⟩ ⟨g, 0, none⟩ H.length cap (hitsV H) rfl hlen hcell HO.out hq4 hq5 ?qc6 ?_)
    case qc6 => simp
    intro v' w1 hown hgrow hnil
    have hb1 : RowKit.Below w.heap.size w w1 := hbA.grown hgrow (by simp) (by intro k hk; simp [Value.ownBlock] at hk; omega)
    have HR : Hid (HitsR w1 w.heap.size v' H) := hown
    clear hown hgrow A HO hcell q62
    go_wp2_with fail
    go_ret
    exact ⟨_, rfl, HR.out, hb1⟩
theorem flat_at (W : List Hit) (t : Nat) (h : t < W.length * 2) : (hitsV W)[t]? = some ((hitC (W.toArray[t / 2]!)).toArray[t % 2]!) := by
  have hq : t / 2 < W.length := by omega
  obtain ⟨a, b⟩ := hitsV_at W (t / 2) hq
  have e : W.toArray[t / 2]! = hat W (t / 2) := by
    rw [getElem!_pos _ _ (by simpa using hq), hat_lt hq]; simp
  rw [e]
  rcases Nat.mod_two_eq_zero_or_one t with h0 | h0
  · rw [show t / 2 * 2 = t by omega] at a
    rw [a, h0]; rfl
  · rw [show t / 2 * 2 + 1 = t by omega] at b
    rw [b, h0]; rfl
theorem take_flat (W : List Hit) (cur : Array Value) (h : W.length * 2 ≤ cur.size) : ((putCells id 0 (flatK hitC 2 W.toArray) cur).toList.take (W.length * 2)) = hitsV W := by
  apply List.ext_getElem?
  intro t
  by_cases ht : t < W.length * 2
  · rw [List.getElem?_take, if_pos ht, flat_at W t ht]
    have hc : t < cur.size := by omega
    simp only [putCells, Array.getElem?_toList, Array.getElem?_mapIdx, Array.getElem?_eq_getElem hc, Option.map_some, size_flatK, List.size_toArray, Nat.zero_add, Nat.sub_zero, id]
    rw [if_pos ⟨Nat.zero_le _, ht⟩, get_flatK _ _ _ _ (by simpa using ht)]
    simp
  · rw [List.getElem?_eq_none (by rw [List.length_take]; omega), List.getElem?_eq_none (by rw [hitsV_length]; omega)]
theorem sort_of {H W : List Hit} (hp : H.Perm W) (hs : SortH W) : (H.mergeSort fun x y => !(ltOf cmpH) y x) = W := by
  have hm : (H.mergeSort fun x y => !(ltOf cmpH) y x).Perm H := List.mergeSort_perm _ _
  have hnd : W.Nodup := hs.imp (fun {a b} hab e => by subst e; rw [lessH_irrefl] at hab; cases hab)
  refine SortH.perm_eq ?_ hs (hm.trans hp)
  have hle : (H.mergeSort fun x y => !(ltOf cmpH) y x).Pairwise (fun a b => (!(ltOf cmpH) b a) = true) := List.pairwise_mergeSort (fun a b c h1 h2 => by
      simp only [cmpH_lt, Bool.not_eq_true'] at *
      exact noH_trans h2 h1) (fun a b => by
      simp only [cmpH_lt]
      cases h1 : lessH b a with
      | false => rfl
      | true => rw [lessH_asymm h1]; rfl) H
  have hnd2 : (H.mergeSort fun x y => !(ltOf cmpH) y x).Nodup := (hm.trans hp).nodup_iff.2 hnd
  refine (List.Pairwise.and hle hnd2).imp ?_
  rintro a b ⟨h1, h2⟩
  simp only [cmpH_lt, Bool.not_eq_true'] at h1
  cases h3 : lessH a b with
  | true => rfl
  | false => exact absurd (noH_both h3 h1) h2
set_option maxRecDepth 100000 in
set_option maxHeartbeats 2000000 in
/-- slices.SortFunc at hits, by compare. -/
theorem sortHits_at {w : World} {lo : Nat} {g n c : Nat} {H W : List Hit} (h : HitsR w lo (.slice (some ⟨g, 0, none⟩) n c) H) (hn : H.length = n) (hp : H.Perm W) (hs : SortH W) (hl : n ≤ 1000000) :
    Calls Tryz.prog 55 #[.slice (some ⟨g, 0, none⟩) n c, .func (.func 56) #[] #[]] w fun e w' => e = .returned (.tuple #[]) ∧ HitsR w' lo (.slice (some ⟨g, 0, none⟩) n c) W ∧ Keeps (fun i => i = g) w w' := by
  have eg : ∀ args w, (callFunc 56 args).run Tryz.prog w = .ok (.enter 56 args) w := enters_of Tryz.func56 (by kernel_rfl) rfl
  obtain ⟨g', cap, cur, e1, hlo, hH, hc, hcm, hcs, htk⟩ : ∃ g' cap cur, Value.slice (some ⟨g, 0, none⟩) n c = .slice (some ⟨g', 0, none⟩) H.length cap ∧ lo ≤ g' ∧ w.heap[g']? = some (.cells cur 25 (0, 0)) ∧ H.length ≤ cap ∧ cap ≤ maxLen ∧ cur.size = cap * 2 ∧ cur.toList.take (H.length * 2) = hitsV H := by
    rcases h.2 with ⟨e, _⟩ | q
    · cases e
    · exact q
  injection e1 with a1 a2 a3
  injection a1 with a1
  injection a1 with a1
  subst a1 a3
  have hgl : g < w.heap.size := (Array.getElem?_eq_some_iff.1 hH).1
  have hHo : HoldsK hitC 2 w g 0 H.toArray := by
    intro j hj
    have hj' : j < H.length * 2 := by simpa using hj
    refine ⟨?_, frozen_of_row _ _ _ _ 25 hH⟩
    rw [Nat.zero_add, cell_of_row _ _ j _ 25 (0, 0) hH, get_flatK _ _ _ _ (by simpa using hj')]
    have := flat_at H j hj'
    rw [← htk, List.getElem?_take, if_pos hj'] at this
    simpa using this
  have hcon := AnyQ.slices_SortFunc_total Tryz.sortHit 2 Tryz.isAgg25 Tryz.sizeOf25 hitC (fun _ => rfl) (fun x v hv => by simp [hitC] at hv; rcases hv with rfl | rfl <;> rfl) cmpH cmpH_swo 56 #[] g 0 c H.toArray w eg (fun _ _ _ _ x y => cmp_at x y _) hHo hgl (by simp; omega) (fun x y h1 h2 => by rw [cmpH_lt] at h1 h2; exact noH_both h1 h2)
  rw [show H.toArray.size = n by simp [hn]] at hcon
  refine hcon.mono ?_
  rintro e w' ⟨rfl, q, os, hw⟩
  rw [show H.toArray.toList = H from rfl, sort_of hp hs] at hw
  have hlen := hp.length_eq
  have hblk : w'.heap[g]? = some (.cells (putCells id 0 (flatK hitC 2 W.toArray) cur) 25 (0, 0)) := by
    rw [hw]
    unfold sortWorldK putRowK putRow mapBlock grow Sort.ahead
    simp only [Array.getElem?_append, Array.size_modify, hgl, if_true, Array.getElem?_modify, hH, Option.map_some]
    rfl
  have hkeep : Keeps (fun i => i = g) w w' := by
    rw [hw]
    unfold sortWorldK putRowK putRow mapBlock grow Sort.ahead
    refine ⟨rfl, rfl, rfl, by simp, fun i hi hs => ?_⟩
    simp only [Array.getElem?_append, Array.size_modify, hi, if_true, Array.getElem?_modify]
    rw [if_neg (fun e => hs e.symm)]
  refine ⟨rfl, ⟨hitsV_length W, .inr ⟨g, c, _, by rw [← hlen, hn], hlo, hblk, by omega, hcm, by simp [putCells]; exact hcs, ?_⟩⟩, hkeep⟩
  exact take_flat W cur (by rw [hcs]; omega)
end Go.Proofs.YteaacodloabdcaaGreatDoor

namespace Go.Proofs.YteaacodloabdcaaGreatDoor
open Go.RowKit Go.Maps Go.Sort Go.Lib

theorem sort_none (p : Option Addr) (c : Nat) (w : World) : Calls Tryz.prog 55 #[.slice p 0 c, .func (.func 56) #[] #[]] w fun e w' => e = .returned (.tuple #[]) ∧ w' = w :=
  AnyF.slices_SortFunc_none { Tryz.sortHit with } p c (.func (.func 56) #[] #[]) w
set_option maxRecDepth 100000 in
set_option maxHeartbeats 2000000 in
theorem ball_at {w : World} {lo bb mb k : Nat} {v : Value} {W : List Hit} (h : BestW w lo bb mb k v W) :
    Calls Tryz.prog 27 #[.pointer (some ⟨bb, 0, none⟩)] w fun e w' => ∃ v', e = .returned v' ∧ HitsR w' w.heap.size v' W ∧ RowKit.Below w.heap.size w w' := by
  obtain ⟨H, hB, hH, hP, hO, hF, hl⟩ := h
  have hlen := hP.length_eq
  have c1 := hB.row.c1
  obtain ⟨p, c, hv⟩ := hB.len_v
  have HC : Hid (Calls Tryz.prog 54 #[v] w fun e w' => ∃ v', e = .returned v' ∧ HitsR w' w.heap.size v' H ∧ RowKit.Below w.heap.size w w') := hclone_at hB.row (by omega)
  have HP : Hid (H.Perm W ∧ SortH W ∧ W.length ≤ 1000000 ∧ H.length = W.length) := ⟨hP, hO.sort, hl, hlen⟩
  subst hv
  clear hB hH hP hO hF hlen
  go_enter Tryz.func27, Tryz.ntmps27
  go_wp2_with fail
  refine HC.out.mono ?_
  rintro e w1 ⟨v1, rfl, hR1, hb1⟩
  obtain ⟨p1, c1', hv1⟩ := hR1.shape
  rw [HP.out.2.2.2] at hv1
  subst hv1
  have HR1 : Hid (HitsR w1 w.heap.size (.slice p1 W.length c1') H) := hR1
  have HS : Hid (Calls Tryz.prog 55 #[.slice p1 W.length c1', .func (.func 56) #[] #[]] w1 fun e w' => e = .returned (.tuple #[]) ∧ Hid (HitsR w' w.heap.size (.slice p1 W.length c1') W ∧ RowKit.Below w.heap.size w w')) := by
    by_cases h0 : W.length = 0
    · have hW : W = [] := List.eq_nil_of_length_eq_zero h0
      have hH : H = [] := List.eq_nil_of_length_eq_zero (by rw [HP.out.2.2.2]; exact h0)
      rw [h0]
      refine (sort_none p1 c1' w1).mono ?_
      rintro e w' ⟨rfl, rfl⟩
      refine ⟨rfl, ?_, hb1⟩
      rw [hW]
      rw [hH, h0] at hR1
      exact hR1
    · obtain ⟨g, c2, e1, _, hg, _⟩ := hR1.at_ 0 (by rw [HP.out.2.2.2]; omega)
      injection e1 with e1 _ _
      subst e1
      refine (sortHits_at hR1 HP.out.2.2.2 HP.out.1 HP.out.2.1 HP.out.2.2.1).mono ?_
      rintro e w' ⟨rfl, hR2, hk2⟩
      exact ⟨rfl, hR2, hb1.trans (hk2.below hb1.size (fun i e => by omega))⟩
  clear hR1 hb1 HC HR1
  go_wp2_with fail
  refine HS.out.mono ?_
  rintro e w2 ⟨rfl, HQ⟩
  clear HS
  go_wp2_with fail
  go_ret
  exact ⟨_, rfl, HQ.out.1, HQ.out.2⟩
theorem ball_nil (w : World) : Calls Tryz.prog 27 #[.pointer none] w fun e w' => e = .returned (.slice none 0 0) ∧ w' = w := by
  go_enter Tryz.func27, Tryz.ntmps27
  go_wp2
  go_ret
  exact ⟨rfl, rfl⟩
end Go.Proofs.YteaacodloabdcaaGreatDoor
