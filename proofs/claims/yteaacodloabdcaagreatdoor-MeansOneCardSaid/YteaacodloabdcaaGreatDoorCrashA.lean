import Derived.Test.YteaacodloabdcaaGreatDoorRead
namespace Go.Proofs.YteaacodloabdcaaGreatDoor
open Go.RowKit Go.Maps Go.Sort Go.Shelf

theorem getD_lt {α : Type} (l : List α) (i : Nat) (d : α) (h : i < l.length) : l.getD i d = l[i] := by simp [List.getD, List.getElem?_eq_getElem h]
theorem getD_ge {α : Type} (l : List α) (i : Nat) (d : α) (h : l.length ≤ i) : l.getD i d = d := by simp [List.getD, List.getElem?_eq_none h]
/-- What the map says of a key. -/
def wasOf (D : DataW Unit) (x : Int) : List UInt8 := match D.atKey (.int .i64 x) (.lit (.string zsec)) with | .lit (.string s) => s | _ => zsec
/-- The sectors behind j of the loose ones. -/
def crashB (D : DataW Unit) (K : List Bool) (L : List Int) (B : List UInt8) : Nat → List UInt8
  | 0 => B
  | j + 1 => if K.getD j false = true then crashB D K L B j else put (crashB D K L B j) (L.getD j 0).toNat (wasOf D (L.getD j 0))

theorem clone46' (b o n c : Nat) (s : List UInt8) (w : World) (hs : s.length = n * 64) (hn : 0 < n) (hbig : n ≤ 4096) (hc : w.rangeAt b o (bytesV s)) :
    Calls Tryz.prog 119 #[.slice (some ⟨b, o, none⟩) n c] w fun e w' => ∃ g cap, e = .returned (.slice (some ⟨g, 0, none⟩) n cap) ∧ w.heap.size ≤ g ∧ w'.rangeAt g 0 (bytesV s) ∧ w'.there g 0 (n * 64) ∧ Below w.heap.size w w' := by
  refine (clone46 b o n c s w hs hbig hc).mono ?_
  rintro e w' ⟨v, rfl, hrow, hne, hb⟩
  obtain ⟨hl, ⟨rfl, h0⟩ | ⟨g, cap, cur, rfl, hg, hblk, hnc, hcm, hcs, hcur⟩⟩ := hrow
  · omega
  · refine ⟨g, cap, rfl, hg, ?_, ?_, hb⟩
    · intro j v hv
      rw [cell_of_row _ _ (0 + j) cur 178 (0, 0) hblk]
      rw [← hcur, List.getElem?_take] at hv
      split at hv
      · simpa using hv
      · cases hv
    · intro j hj
      refine ⟨?_, ?_⟩
      · rw [cell_of_row _ _ (0 + j) cur 178 (0, 0) hblk]
        have : 0 + j < cur.size := by rw [hcs]; have := Nat.mul_le_mul_right 64 hnc; omega
        rw [Array.getElem?_eq_getElem this]; rfl
      · simp [World.frozen?, hblk]

/-- Loose, its shape written out: L is sorted. -/
theorem loose_row {w : World} {db nb mb n cap : Nat} {B : List UInt8} {k : Nat} {D : DataW Unit} {left : Int} {down : Bool} (h : DevAt w db nb mb n cap B k D left down) (hk : k ≤ 1000000) :
    Calls Tryz.prog 120 #[.pointer (some ⟨db, 0, none⟩)] w fun e w' => ∃ (L : List Int), L.length ≤ k ∧ L.Perm (intKeys D) ∧ L.Pairwise (fun x y => x ≤ y) ∧ Below w.heap.size w w' ∧
      ((e = .returned (.slice none 0 0) ∧ L = []) ∨ (∃ g c, e = .returned (.slice (some ⟨g, 0, none⟩) L.length c) ∧ w.heap.size ≤ g ∧ 0 < L.length ∧ w'.rangeAt g 0 (L.map encZ))) := by
  refine (loose_any h hk).mono ?_
  rintro e w' ⟨v, ss, rfl, hperm, hrow, hnil, hb⟩
  have hlen : (ss.mergeSort (fun x y => decide (x ≤ y))).length = ss.length := List.length_mergeSort _
  have hkl : (ss.mergeSort (fun x y => decide (x ≤ y))).length ≤ k := by
    rw [hlen, hperm.length_eq]
    have := ownsMap_size h.was
    have e : (intKeys D).length = Maps.size D := by cases D <;> simp [intKeys, Maps.size]
    omega
  refine ⟨ss.mergeSort (fun x y => decide (x ≤ y)), hkl, (List.mergeSort_perm _ _).trans hperm, ?_, hb, ?_⟩
  · have := List.pairwise_mergeSort (le := fun x y : Int => decide (x ≤ y)) (fun a b c h1 h2 => by simp at *; omega) (fun a b => by simp; omega) ss
    exact this.imp (fun h => by simpa using h)
  · obtain ⟨hl, ⟨rfl, h0⟩ | ⟨g, c, cur, rfl, hg, hblk, hnc, hcm, hcs, hcur⟩⟩ := hrow
    · refine Or.inl ⟨rfl, ?_⟩
      have : ss = [] := hnil.1 rfl
      subst this; simp
    · right
      refine ⟨g, c, by rw [hlen], hg, ?_, ?_⟩
      · rw [hlen]
        rcases ss with _ | ⟨x, r⟩
        · have := hnil.2 rfl
          simp at this
        · simp
      · intro j v hv
        rw [cell_of_row _ _ (0 + j) cur 3 (0, 0) hblk]
        rw [← hcur, List.getElem?_take] at hv
        split at hv
        · simpa using hv
        · cases hv

/-- The map's sector, in a still region. -/
theorem wpStill_lookup_sec {w : World} {ops : Array Oper} {rest : List Oper} {o : Oper} {a : Act} {Q : Act → Prop} (hg : o.guard = none) (m x : Operand) (hop : o.op = Op.lookup 179 m x false)
    (b n : Nat) (D : DataW Unit) (hm : a.eval m = .map (some b)) (hown : w.ownsMap Tryz.prog 3 secR b n D) (i : Int) (hx : a.eval x = .int .i64 i) (hkey : keyOf Tryz.prog 3 (.int .i64 i) = some (.int .i64 i))
    (hK : (wasOf D i).length = 64 → wpStill Tryz.prog ops w Q rest (a.put o.dst (.agg (bytesV (wasOf D i)).toArray))) :
    wpStill Tryz.prog ops w Q (o :: rest) a := by
  obtain ⟨v, ps, hrun, hv⟩ := hown.lookup law3 Tryz.underlying179 (zero80 w) (secR_mk zsec rfl) hkey
  obtain ⟨s, hs, rfl, he⟩ := secR_inv hv
  simp only [Prod.mk.injEq] at he
  have e : wasOf D i = s := by simp only [wasOf, he.1]
  refine wpStill_step (fun K hK' => ?_)
  have hw : Region.wanted o (yielded ops a.tmps) = true := by simp [Region.wanted, hg]
  rw [if_pos hw]
  unfold Oper.still execOp
  simp only [hop, hm, hx, hrun, Sem.run_bind, Result.andThen_ok, Sem.run_pure, Oper.stillUpon]
  refine ⟨trivial, hK' _ ?_⟩
  rw [← e]
  exact hK (by rw [e]; exact hs)
/-- holding: a device around sectors that were made. -/
theorem holding_dev {w : World} {g n cap : Nat} {B : List UInt8} (hr : w.rangeAt g 0 (bytesV B)) (ht : w.there g 0 (n * 64)) (hl : B.length = n * 64) (h1 : 64 ≤ n) (h2 : n ≤ 4096) :
    Calls Tryz.prog 116 #[.slice (some ⟨g, 0, none⟩) n cap] w fun e w' => ∃ db mb, e = .returned (.pointer (some ⟨db, 0, none⟩)) ∧ w.heap.size ≤ db ∧ w.heap.size ≤ mb ∧ DevAt w' db g mb n cap B 0 (.map []) 0 false ∧ Below w.heap.size w w' := by
  refine (holding_any g n cap w).mono ?_
  rintro e w' ⟨rfl, rfl⟩
  have hg : g < w.heap.size := by
    obtain ⟨u, hu⟩ := Option.isSome_iff_exists.1 (ht 0 (by omega)).1
    exact World.block_lt_of_cell? w _ hu
  refine ⟨w.heap.size + 1, w.heap.size, rfl, by omega, by omega, ?_, ((Below.refl _ _).alloc (Nat.le_refl _) _).alloc (by simp) _⟩
  exact {
    c0 := by rw [World.cell?_alloc_at _ _ _ _ (by simp)]; rfl
    c1 := by rw [World.cell?_alloc_at _ _ _ _ (by simp)]; rfl
    c2 := by rw [World.cell?_alloc_at _ _ _ _ (by simp)]; rfl
    c3 := by rw [World.cell?_alloc_at _ _ _ _ (by simp)]; rfl
    f := fun o => by rw [World.frozen?_alloc_at _ _ _ _ (by simp)]
    now := World.rangeAt_alloc (World.rangeAt_alloc hr _) _
    thr := World.there_alloc (World.there_alloc ht _) _
    len := hl
    was := (World.ownsMap_made w Tryz.prog 3 (secR (H := Unit))).alloc _
    ne1 := by omega
    ne2 := by omega
    ne3 := by omega
    n1 := h1
    n2 := h2
    keys := fun x hx => by simp [intKeys] at hx
    l0 := by omega
    l1 := by omega }
end Go.Proofs.YteaacodloabdcaaGreatDoor

namespace Go.Proofs.YteaacodloabdcaaGreatDoor
open Go.RowKit Go.Maps

set_option maxRecDepth 100000 in
set_option maxHeartbeats 1000000 in
theorem crash_keep {w : World} {db nb mb n cap : Nat} {B : List UInt8} {k : Nat} {D : DataW Unit} {left : Int} {down : Bool} (h : DevAt w db nb mb n cap B k D left down) (hk : k ≤ 1000000)
    (kb ko klen kc : Nat) (K : List Bool) (hK : K.length = klen) (hkc : w.rangeAt kb ko (K.map Value.bool)) :
    Calls Tryz.prog 83 #[.pointer (some ⟨db, 0, none⟩), .slice (some ⟨kb, ko, none⟩) klen kc] w fun e w' => ∃ (L : List Int) (db' nb' mb' cap' : Nat), L.Perm (intKeys D) ∧ L.Pairwise (fun x y => x ≤ y) ∧ e = .returned (.pointer (some ⟨db', 0, none⟩)) ∧
      w.heap.size ≤ db' ∧ w.heap.size ≤ nb' ∧ w.heap.size ≤ mb' ∧ DevAt w' db' nb' mb' n cap' (crashB D K L B L.length) 0 (.map []) 0 false ∧ Below w.heap.size w w' := by
  have c0 := h.c0
  have hn1 := h.n1
  have hn2 := h.n2
  go_enter Tryz.func83, Tryz.ntmps83
  go_wp2_with (first
    | (go_at_call 119; refine (clone46' _ _ _ _ B _ h.len (by omega) hn2 h.now).mono ?_; rintro e w1 ⟨g, cap', rfl, hg, hr1, ht1, hb1⟩)
    | (go_at_call 116; refine (holding_dev hr1 ht1 h.len hn1 hn2).mono ?_; rintro e w2 ⟨db', mb', rfl, hd2, hm2, hc2, hb2⟩))
  have hw2 : Below w.heap.size w w2 := hb1.trans (hb2.mono hb1.size)
  have h2 : DevAt w2 db nb mb n cap B k D left down := h.keeps (Keeps.of_below (S := fun _ => False) hw2) (fun e => e) (fun e => e) (fun e => e)
  refine (loose_row h2 hk).mono ?_
  rintro e w3 ⟨L, hLk, hperm, hsort, hb3, hcase⟩
  have h3 : DevAt w3 db nb mb n cap B k D left down := h2.keeps (Keeps.of_below (S := fun _ => False) hb3) (fun e => e) (fun e => e) (fun e => e)
  have hc3 : DevAt w3 db' g mb' n cap' B 0 (.map []) 0 false := hc2.keeps (Keeps.of_below (S := fun _ => False) hb3) (fun e => e) (fun e => e) (fun e => e)
  have hw3 : Below w.heap.size w w3 := hw2.trans (hb3.mono hw2.size)
  have hgl : g < w2.heap.size := hc2.nlt
  have hdl := h.dlt
  have hml := h.mlt
  have hs1 := hb1.size
  clear c0 h2 hc2 hb1 hb2 hr1 ht1 hw2
  rcases hcase with ⟨rfl, rfl⟩ | ⟨lg, lc, rfl, hlg, hlp, hlr⟩
  · go_wp2
    refine wp_loop_rounds 1 ?_
    rw [rounds_succ]
    go_wp2
    go_ret
    exact ⟨[], db', g, mb', cap', hperm, hsort, rfl, by omega, hg, by omega, hc3, hw3⟩
  · have hlb : ∀ x ∈ L, 0 ≤ x ∧ x < n := fun x hx => h.keys x (hperm.mem_iff.1 hx)
    go_wp2
    go_loopw [19] (fun j wr => ∃ jn : Nat, jn ≤ L.length ∧ j = .int .i64 jn ∧ DevAt wr db' g mb' n cap' (crashB D K L B jn) 0 (.map []) 0 false ∧ Keeps (fun i => i = g) w3 wr) (fun j _ => L.length - (RowKit.intOf j).toNat)
    case atStart => exact ⟨0, Nat.zero_le _, rfl, hc3, Keeps.refl _ _⟩
    case round =>
      obtain ⟨jn, hjn, rfl, hcr, hkr⟩ := hrel
      by_cases hlt : jn < L.length
      · have hmem : L.getD jn 0 ∈ L := by rw [getD_lt _ _ _ hlt]; exact List.getElem_mem hlt
        obtain ⟨xi, hxi⟩ : ∃ xi : Nat, L.getD jn 0 = (xi : Int) := ⟨(L.getD jn 0).toNat, by have := (hlb _ hmem).1; omega⟩
        have hxn : xi < n := by have := (hlb _ hmem).2; omega
        have hcell : wr.cell? ⟨lg, jn, none⟩ = some (.int .i64 (xi : Int)) := by
          have e1 := hlr jn (.int .i64 (xi : Int)) (by rw [List.getElem?_map, List.getElem?_eq_getElem hlt, ← hxi, getD_lt _ _ _ hlt]; rfl)
          have e2 := World.block_lt_of_cell? _ _ e1
          have e3 := hkr.cell (p := ⟨lg, jn, none⟩) e2 (by show ¬ lg = g; omega)
          rw [e3]
          simpa using e1
        have ho : DevAt wr db nb mb n cap B k D left down := h3.keeps hkr (by omega) (by have := h.nlt; omega) (by omega)
        have hkey : keyOf Tryz.prog 3 (.int .i64 (xi : Int)) = some (.int .i64 (xi : Int)) := keyOf_int_mk Tryz.underlying3 (WalkArith.wf_i64 (by omega))
        have c0' := hcr.c0
        have c1 := ho.c1
        have hxt : (L.getD jn 0).toNat = xi := by omega
        have hkb : jn < klen → wr.cell? ⟨kb, ko + jn, none⟩ = some (.bool (K.getD jn false)) := fun hj => by
          have e1 := hkc jn (.bool (K.getD jn false)) (by rw [List.getElem?_map, List.getElem?_eq_getElem (by omega), getD_lt _ _ _ (by omega)]; rfl)
          have hkl := World.block_lt_of_cell? _ _ e1
          have e2 : w3.cell? ⟨kb, ko + jn, none⟩ = some (.bool (K.getD jn false)) := (hw3.cell (p := ⟨kb, ko + jn, none⟩) hkl).trans e1
          have e3 := hkr.cell (p := ⟨kb, ko + jn, none⟩) (World.block_lt_of_cell? _ _ e2) (by show ¬ kb = g; have : kb < w.heap.size := hkl; omega)
          rw [e3]
          exact e2
        by_cases hkeep : K.getD jn false = true
        · have hkl : jn < klen := by
            rcases Nat.lt_or_ge jn klen with hj | hj
            · exact hj
            · rw [getD_ge _ _ _ (by omega)] at hkeep; cases hkeep
          have hkb' := hkb hkl
          rw [hkeep] at hkb'
          have HS : Hid (crashB D K L B (jn + 1) = crashB D K L B jn) := by show crashB D K L B (jn + 1) = _; simp only [crashB, if_pos hkeep]
          clear hkb hkeep hxi hxt hkc
          go_wp2
          go_roundw
          case rel => exact ⟨jn + 1, by omega, by go_num, by rw [HS.out]; exact hcr, hkr⟩
          case measure => simp [RowKit.intOf]; omega
        · have HS : Hid (crashB D K L B (jn + 1) = put (crashB D K L B jn) xi (wasOf D xi)) := by show crashB D K L B (jn + 1) = _; simp only [crashB]; rw [if_neg hkeep, hxt, hxi]
          have hkf : K.getD jn false = false := by simpa using hkeep
          rw [hkf] at hkb
          clear hkeep hxi hxt hkc hkf
          by_cases hkl : jn < klen
          · have hkb' := hkb hkl
            clear hkb
            go_wp2
            refine wp_region_still_tail 12 follows (by kernel_rfl) ?_
            simp only [List.take_succ_cons, List.take_zero, List.drop_succ_cons, List.drop_zero]
            change wpStill _ _ wr.drew (fun a' => wpList _ _ _ _ a' wr.drew) _ _
            iterate 10 still_step
            refine wpStill_lookup_sec rfl _ _ rfl mb k D rfl ho.drew.was xi rfl hkey ?_
            intro hwl
            still_step
            refine wpStill_nil ?_
            refine wpList_store_now hcr.drew hxn hwl rfl _ _ rfl _ rfl (by omega) rfl ?_
            intro w5 hc5 hk5
            go_wp2
            go_roundw
            case rel => exact ⟨jn + 1, by omega, by go_num, by rw [HS.out]; exact hc5, hkr.drew.trans hk5⟩
            case measure => simp [RowKit.intOf]; omega
          · clear hkb
            go_wp2
            refine wp_region_still_tail 12 follows (by kernel_rfl) ?_
            simp only [List.take_succ_cons, List.take_zero, List.drop_succ_cons, List.drop_zero]
            change wpStill _ _ wr.drew (fun a' => wpList _ _ _ _ a' wr.drew) _ _
            iterate 10 still_step
            refine wpStill_lookup_sec rfl _ _ rfl mb k D rfl ho.drew.was xi rfl hkey ?_
            intro hwl
            still_step
            refine wpStill_nil ?_
            refine wpList_store_now hcr.drew hxn hwl rfl _ _ rfl _ rfl (by omega) rfl ?_
            intro w5 hc5 hk5
            go_wp2
            go_roundw
            case rel => exact ⟨jn + 1, by omega, by go_num, by rw [HS.out]; exact hc5, hkr.drew.trans hk5⟩
            case measure => simp [RowKit.intOf]; omega
      · go_wp2
        go_ret
        have : jn = L.length := by omega
        subst this
        exact ⟨L, db', g, mb', cap', hperm, hsort, rfl, by omega, hg, by omega, hcr, hw3.trans (hkr.below hw3.size (fun i e => by omega))⟩
end Go.Proofs.YteaacodloabdcaaGreatDoor

namespace Go.Proofs.YteaacodloabdcaaGreatDoor
open Go.RowKit Go.Maps

set_option maxRecDepth 100000 in
set_option maxHeartbeats 1000000 in
theorem crash_none {w : World} {db nb mb n cap : Nat} {B : List UInt8} {k : Nat} {D : DataW Unit} {left : Int} {down : Bool} (h : DevAt w db nb mb n cap B k D left down) (hk : k ≤ 1000000)
    (ka : Option Addr) (kc : Nat) :
    Calls Tryz.prog 83 #[.pointer (some ⟨db, 0, none⟩), .slice ka 0 kc] w fun e w' => ∃ (L : List Int) (db' nb' mb' cap' : Nat), L.Perm (intKeys D) ∧ L.Pairwise (fun x y => x ≤ y) ∧ e = .returned (.pointer (some ⟨db', 0, none⟩)) ∧
      w.heap.size ≤ db' ∧ w.heap.size ≤ nb' ∧ w.heap.size ≤ mb' ∧ DevAt w' db' nb' mb' n cap' (crashB D [] L B L.length) 0 (.map []) 0 false ∧ Below w.heap.size w w' := by
  have c0 := h.c0
  have hn1 := h.n1
  have hn2 := h.n2
  go_enter Tryz.func83, Tryz.ntmps83
  go_wp2_with (first
    | (go_at_call 119; refine (clone46' _ _ _ _ B _ h.len (by omega) hn2 h.now).mono ?_; rintro e w1 ⟨g, cap', rfl, hg, hr1, ht1, hb1⟩)
    | (go_at_call 116; refine (holding_dev hr1 ht1 h.len hn1 hn2).mono ?_; rintro e w2 ⟨db', mb', rfl, hd2, hm2, hc2, hb2⟩))
  have hw2 : Below w.heap.size w w2 := hb1.trans (hb2.mono hb1.size)
  have h2 : DevAt w2 db nb mb n cap B k D left down := h.keeps (Keeps.of_below (S := fun _ => False) hw2) (fun e => e) (fun e => e) (fun e => e)
  refine (loose_row h2 hk).mono ?_
  rintro e w3 ⟨L, hLk, hperm, hsort, hb3, hcase⟩
  have h3 : DevAt w3 db nb mb n cap B k D left down := h2.keeps (Keeps.of_below (S := fun _ => False) hb3) (fun e => e) (fun e => e) (fun e => e)
  have hc3 : DevAt w3 db' g mb' n cap' B 0 (.map []) 0 false := hc2.keeps (Keeps.of_below (S := fun _ => False) hb3) (fun e => e) (fun e => e) (fun e => e)
  have hw3 : Below w.heap.size w w3 := hw2.trans (hb3.mono hw2.size)
  have hgl : g < w2.heap.size := hc2.nlt
  have hdl := h.dlt
  have hml := h.mlt
  have hs1 := hb1.size
  clear c0 h2 hc2 hb1 hb2 hr1 ht1 hw2
  rcases hcase with ⟨rfl, rfl⟩ | ⟨lg, lc, rfl, hlg, hlp, hlr⟩
  · go_wp2
    refine wp_loop_rounds 1 ?_
    rw [rounds_succ]
    go_wp2
    go_ret
    exact ⟨[], db', g, mb', cap', hperm, hsort, rfl, by omega, hg, by omega, hc3, hw3⟩
  · have hlb : ∀ x ∈ L, 0 ≤ x ∧ x < n := fun x hx => h.keys x (hperm.mem_iff.1 hx)
    go_wp2
    go_loopw [19] (fun j wr => ∃ jn : Nat, jn ≤ L.length ∧ j = .int .i64 jn ∧ DevAt wr db' g mb' n cap' (crashB D [] L B jn) 0 (.map []) 0 false ∧ Keeps (fun i => i = g) w3 wr) (fun j _ => L.length - (RowKit.intOf j).toNat)
    case atStart => exact ⟨0, Nat.zero_le _, rfl, hc3, Keeps.refl _ _⟩
    case round =>
      obtain ⟨jn, hjn, rfl, hcr, hkr⟩ := hrel
      by_cases hlt : jn < L.length
      · have hmem : L.getD jn 0 ∈ L := by rw [getD_lt _ _ _ hlt]; exact List.getElem_mem hlt
        obtain ⟨xi, hxi⟩ : ∃ xi : Nat, L.getD jn 0 = (xi : Int) := ⟨(L.getD jn 0).toNat, by have := (hlb _ hmem).1; omega⟩
        have hxn : xi < n := by have := (hlb _ hmem).2; omega
        have hcell : wr.cell? ⟨lg, jn, none⟩ = some (.int .i64 (xi : Int)) := by
          have e1 := hlr jn (.int .i64 (xi : Int)) (by rw [List.getElem?_map, List.getElem?_eq_getElem hlt, ← hxi, getD_lt _ _ _ hlt]; rfl)
          have e2 := World.block_lt_of_cell? _ _ e1
          have e3 := hkr.cell (p := ⟨lg, jn, none⟩) e2 (by show ¬ lg = g; omega)
          rw [e3]
          simpa using e1
        have ho : DevAt wr db nb mb n cap B k D left down := h3.keeps hkr (by omega) (by have := h.nlt; omega) (by omega)
        have hkey : keyOf Tryz.prog 3 (.int .i64 (xi : Int)) = some (.int .i64 (xi : Int)) := keyOf_int_mk Tryz.underlying3 (WalkArith.wf_i64 (by omega))
        have c0' := hcr.c0
        have c1 := ho.c1
        have hxt : (L.getD jn 0).toNat = xi := by omega
        have HS : Hid (crashB D [] L B (jn + 1) = put (crashB D [] L B jn) xi (wasOf D xi)) := by
          show crashB D [] L B (jn + 1) = _
          have e0 : ([] : List Bool).getD jn false = false := by simp
          simp only [crashB, e0]; rw [if_neg (by simp), hxt, hxi]
        clear hxi hxt
        go_wp2
        refine wp_region_still_tail 12 follows (by kernel_rfl) ?_
        simp only [List.take_succ_cons, List.take_zero, List.drop_succ_cons, List.drop_zero]
        change wpStill _ _ wr.drew (fun a' => wpList _ _ _ _ a' wr.drew) _ _
        iterate 10 still_step
        refine wpStill_lookup_sec rfl _ _ rfl mb k D rfl ho.drew.was xi rfl hkey ?_
        intro hwl
        still_step
        refine wpStill_nil ?_
        refine wpList_store_now hcr.drew hxn hwl rfl _ _ rfl _ rfl (by omega) rfl ?_
        intro w5 hc5 hk5
        go_wp2
        go_roundw
        case rel => exact ⟨jn + 1, by omega, by go_num, by rw [HS.out]; exact hc5, hkr.drew.trans hk5⟩
        case measure => simp [RowKit.intOf]; omega
      · go_wp2
        go_ret
        have : jn = L.length := by omega
        subst this
        exact ⟨L, db', g, mb', cap', hperm, hsort, rfl, by omega, hg, by omega, hcr, hw3.trans (hkr.below hw3.size (fun i e => by omega))⟩
end Go.Proofs.YteaacodloabdcaaGreatDoor
