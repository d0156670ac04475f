import Derived.Test.YtlmdeafmlommeaaGreatDoorLgD
import Derived.Test.YtlmdeafmlommeaaGreatDoorBgD
import Derived.Maps.RangeWalk
namespace Go.Proofs.YtlmdeafmlommeaaGreatDoor
open Go.RowKit Go.Maps

theorem save_sec {B : List UInt8} {n : Nat} (hB : B.length = n * 64) (hn : 2 ≤ n) {A : List Int} (hl : A.length ≤ 4) (hf : AllFit A) {code : Int} {B' : List UInt8} {D D' : DataW Unit} {left left' : Int} {down down' : Bool} (h : SaveO B D left down A code B' D' left' down') {q : Nat} (hq : 2 ≤ q) : sec B' q = sec B q := by
  have ha := afterT_fine (turnOf (newestOf (sec B 0) (sec B 1)).2)
  have hlen := secOf_len (t := afterT (turnOf (newestOf (sec B 0) (sec B 1)).2)) (ns := A) ⟨ha.1, ha.2, hl, hf⟩
  rcases h with ⟨_, _, rfl, _⟩ | ⟨_, _, _, rfl, _⟩ | ⟨_, _, _, rfl, _⟩
  · rfl
  · exact sec_put_other hB (by omega) hlen (by omega)
  · exact sec_put_other hB (by omega) hlen (by omega)
theorem own_keepsT {S : Nat → Prop} {R : Value → Option (DataW Unit × List MemPlace)} {w w' : World} {b n : Nat} {D : DataW Unit} (h : w.ownsMap Tryz.prog 3 R b n D) (hk : Keeps S w w') (hs : ¬ S b) : w'.ownsMap Tryz.prog 3 R b n D := by
  have hlt := h.lt
  obtain ⟨es, clock, hb, F, hs', hD⟩ := h
  exact ⟨es, clock, (hk.block b hlt hs).trans hb, F, hs', hD⟩
theorem key_mkT (x : Int) (h0 : -9223372036854775808 ≤ x) (h1 : x ≤ 9223372036854775807) : keyOf Tryz.prog 3 (.int .i64 x) = some (ik x) :=
  keyOf_int_mk Tryz.underlying3 (by simp [Lit.wf, IntKind.min, IntKind.max, IntKind.signed, IntKind.bits]; omega)
/-- The row of a sector while it is filled. -/
def fbuf (x : UInt8) (j : Nat) : List Value := bytesV (List.replicate j x) ++ List.replicate (64 - j) (.int .u8 0)
theorem fbuf_set (x : UInt8) (j : Nat) (h : j < 64) : (fbuf x j).toArray.setIfInBounds j (.int .u8 (x.toNat : Int)) = (fbuf x (j + 1)).toArray := by
  have hl : (bytesV (List.replicate j x)).length = j := by rw [bytesV_length, List.length_replicate]
  unfold fbuf
  rw [List.replicate_succ', bytesV_append, List.append_assoc]
  obtain ⟨r, hr⟩ : ∃ r, 64 - j = r + 1 := ⟨64 - j - 1, by omega⟩
  rw [hr, show 64 - (j + 1) = r by omega, List.replicate_succ]
  simp only [List.setIfInBounds_toArray]
  rw [List.set_append_right _ _ (by omega), hl, Nat.sub_self]
  rfl
/-- The loop's: what was written, and where. -/
def TkI (w wr : World) (db nb sb g bm : Nat) (s : List UInt8) (i : Nat) : Prop :=
  ∃ mb k n B D Dw, DevAt wr db nb mb 64 64 B k D 0 false ∧ k ≤ i + 2 ∧ SlAt wr sb db false ∧ (sb ≠ db ∧ sb ≠ nb ∧ sb ≠ mb) ∧ wr.ownsMap Tryz.prog 3 (plainElem (H := Unit) Tryz.prog 4) bm n Dw ∧ n ≤ i ∧ IsMap Dw ∧ (∀ q : Nat, has Dw (ik q) = true → 2 ≤ q ∧ q < 64 ∧ sec B q = s) ∧ (∀ x : Int, has Dw (ik x) = true → 0 ≤ x) ∧ BlkAt wr g s ∧ (bm ≠ db ∧ bm ≠ nb ∧ bm ≠ mb ∧ bm ≠ sb ∧ bm ≠ g) ∧ (g ≠ db ∧ g ≠ nb ∧ g ≠ mb ∧ g ≠ sb) ∧ (w.heap.size ≤ db ∧ w.heap.size ≤ nb ∧ w.heap.size ≤ mb ∧ w.heap.size ≤ sb ∧ w.heap.size ≤ g ∧ w.heap.size ≤ bm) ∧ Below w.heap.size w wr
theorem invKT (key : Value) (kl : Lit) (h : keyOf Tryz.prog 3 key = some kl) : ∃ x, key = Value.int .i64 x := by
  obtain ⟨x, rfl, _⟩ := Maps.keyOf_int_inv Tryz.underlying3 h
  exact ⟨x, rfl⟩
/-- The last loop's. -/
def TkR (w wr : World) (db nb mb cap : Nat) (B : List UInt8) (g bm r n : Nat) (s : List UInt8) (Dw : DataW Unit) : Prop :=
  ∃ left cnt, wr.ranges Tryz.prog 3 (plainElem (H := Unit) Tryz.prog 4) bm r n Dw left cnt ∧ (∀ kl, left kl = true → has Dw kl = true) ∧ DevAt wr db nb mb 64 cap B 0 (.map []) 0 false ∧ BlkAt wr g s ∧ Below w.heap.size w wr
set_option maxRecDepth 100000 in
set_option maxHeartbeats 4000000 in
theorem slotTakes_true (a1 : Option Addr) (n1 c1 : Nat) (A1 : List Int) (x : UInt8) (w : World) (h1 : IntsAt w w.heap.size a1 n1 A1) (_hc1 : n1 ≤ c1 ∧ c1 ≤ 9223372036854775807) (hg : w.cell? ⟨0, 0, none⟩ = some errType) :
    Calls Tryz.prog 7 #[.slice a1 n1 c1, .int .u8 (x.toNat : Int)] w fun e w' => e = .returned (.bool true) ∧ Below w.heap.size w w' := by
  have hmm := @run_makeMap Tryz.prog
  have hmk : ∀ W : World, (Instr.makeSlice 34 (.int .i64 64) (.int .i64 64)).run Tryz.prog W = .ok (.slice (some ⟨W.heap.size, 0, none⟩) 64 64) (W.alloc (.cells (Array.replicate 64 (.int .u8 0)) 5)) := fun W => mkB 64 (by omega) W
  go_enter Tryz.func7, Tryz.ntmps7
  go_wp2_with fail
  refine (begun4_true _ hg).mono ?_
  rintro e w1 ⟨rfl, hb1⟩
  clear hg
  have hs1 := hb1.size
  go_wp2_with fail
  refine (new_at 64 w1 (by omega) (by omega)).mono ?_
  rintro e w2 ⟨db, nb, mb, rfl, l1, l2, l3, hd2, hb2⟩
  have hs2 := hb2.size
  have hbw2 : Below w.heap.size w w2 := hb1.trans (hb2.mono hs1)
  clear hb1 hb2
  go_wp2_with fail
  have hf1 : AllFit [1] := fun q hq => by simp at hq; omega
  have hI : IntsAt (w2.alloc (.cells #[.int .i64 1] 2)) (w2.alloc (.cells #[.int .i64 1] 2)).heap.size (some ⟨w2.heap.size, 0, none⟩) 1 [1] := ints_new w2 [1] hf1
  have hbA : Below w2.heap.size w2 (w2.alloc (.cells #[.int .i64 1] 2)) := (Below.refl _ _).alloc (Nat.le_refl _) _
  have hsA : (w2.alloc (.cells #[.int .i64 1] 2)).heap.size = w2.heap.size + 1 := by simp
  have hdl := hd2.dlt
  have hnl := hd2.nlt
  have hml := hd2.mlt
  have hdA := hd2.keeps (Keeps.of_below (S := fun _ => False) hbA) (fun e => e) (fun e => e) (fun e => e)
  have hbwA := hbw2.trans (hbA.mono hbw2.size)
  generalize w2.alloc (.cells #[.int .i64 1] 2) = wA at hI hbA hsA hdA hbwA ⊢
  have hBl := hdA.len
  refine (make_at hdA (by omega) (some ⟨w2.heap.size, 0, none⟩) 1 [1] (by simp) hI (fun b o e _ => by cases e; omega)).mono ?_
  rintro e w3 ⟨code, pv, mb3, k3, B3, D3, left3, down3, rfl, hd3, hk3, hm3, hK3, hM, _, hpv⟩
  obtain ⟨rfl, hG3⟩ := make_good hBl (by omega) (by simp) hf1 hM
  obtain ⟨sb, rfl, p1, hSl3, hne3⟩ := hpv rfl
  have hs3 := hK3.size
  have hbw3 : Below w.heap.size w w3 := hbwA.trans (hK3.below (by omega) (fun i e => by omega))
  obtain ⟨rfl, rfl, rfl⟩ : D3 = .map [] ∧ left3 = 0 ∧ down3 = false := ⟨hG3.d, hG3.l, hG3.dn⟩
  have hw2 := hbw2.size
  clear hM hpv hK3 hdA hI hbA hG3 hbwA hbw2 hd2
  go_wp2_with fail
  clear hmk
  have hrow : (w3.alloc (.cells (Array.replicate 64 (.int .u8 0)) 5)).heap[w3.heap.size]? = some (.cells (fbuf x 0).toArray 5) := by
    rw [heap_alloc_last]
    have e : (fbuf x 0).toArray = Array.replicate 64 (.int .u8 0) := List.toArray_replicate ..
    rw [e]
  have hbB : Below w3.heap.size w3 (w3.alloc (.cells (Array.replicate 64 (.int .u8 0)) 5)) := (Below.refl _ w3).alloc (Nat.le_refl _) _
  have hsB : (w3.alloc (.cells (Array.replicate 64 (.int .u8 0)) 5)).heap.size = w3.heap.size + 1 := by simp
  have hd3l := hd3.dlt
  have hd3n := hd3.nlt
  have hd3m := hd3.mlt
  have hsl3 := hSl3.lt
  generalize w3.alloc (.cells (Array.replicate 64 (.int .u8 0)) 5) = wB at hrow hbB hsB ⊢
  have HI0 : Hid (wB.heap[w3.heap.size]? = some (.cells (fbuf x 0).toArray 5) ∧ Below w3.heap.size w3 wB) := ⟨hrow, hbB⟩
  have HD3 : Hid (DevAt w3 db nb mb3 64 64 B3 k3 (.map []) 0 false ∧ SlAt w3 sb db false ∧ Below w.heap.size w w3 ∧ IntsAt w w.heap.size a1 n1 A1) := ⟨hd3, hSl3, hbw3, h1⟩
  have hws3 := hbw3.size
  clear hrow hbB hd3 hSl3 hbw3 h1
  go_loopw [33] (fun s33 wr => ∃ j : Nat, j ≤ 64 ∧ s33 = .int .i64 j ∧ Hid (wr.heap[w3.heap.size]? = some (.cells (fbuf x j).toArray 5) ∧ Below w3.heap.size w3 wr)) (fun s33 _ => 64 - (RowKit.intOf s33).toNat)
  case atStart => exact ⟨0, Nat.zero_le _, rfl, HI0⟩
  case round => as_aux_lemma =>
    obtain ⟨j, hj, rfl, HI⟩ := hrel
    clear HI0
    obtain ⟨hrow, hbr⟩ := HI.out
    by_cases hlt : j < 64
    · have hc : wr.cell? ⟨w3.heap.size, j, none⟩ = some (.int .u8 0) := by
        rw [cell_of_row _ _ j _ 5 (0, 0) hrow]
        unfold fbuf
        have hl : (bytesV (List.replicate j x)).length = j := by rw [bytesV_length, List.length_replicate]
        simp only [List.getElem?_toArray]
        rw [List.getElem?_append_right (by omega), hl, Nat.sub_self, List.getElem?_replicate, if_pos (by omega)]
      have hf : wr.frozen? ⟨w3.heap.size, j, none⟩ = false := by unfold World.frozen?; rw [hrow]; simp
      have HN : Hid ((wr.setCell ⟨w3.heap.size, j, none⟩ (.int .u8 (x.toNat : Int))).heap[w3.heap.size]? = some (.cells (fbuf x (j + 1)).toArray 5) ∧ Below w3.heap.size w3 (wr.setCell ⟨w3.heap.size, j, none⟩ (.int .u8 (x.toNat : Int)))) := by
        have hk := (Keeps.refl (fun i => i = w3.heap.size) wr).setCell (p := ⟨w3.heap.size, j, none⟩) rfl (.int .u8 (x.toNat : Int))
        refine ⟨?_, hbr.trans (hk.below hbr.size (fun i e => by omega))⟩
        rw [setCell_eq_setRow _ _ _ _ _ _ _ hrow, setRow_heap _ _ _ _ _ _ hrow, fbuf_set x j hlt]
      clear hrow hbr HI
      go_wp2_with fail
      exact ⟨⟨j + 1, by omega, by go_num, HN⟩, by simp [RowKit.intOf]; omega⟩
    · have hjm : j = 64 := by omega
      subst hjm
      have hslen : (List.replicate 64 x).length = 64 := List.length_replicate ..
      have hBlk : BlkAt wr w3.heap.size (List.replicate 64 x) := by
        refine ⟨_, hrow, ?_⟩
        unfold fbuf
        have hl : (bytesV (List.replicate 64 x)).length = 64 := by rw [bytesV_length, List.length_replicate]
        simp only [Nat.sub_self, List.replicate_zero, List.append_nil, List.length_replicate]
        exact List.take_of_length_le (by omega)
      generalize hss : List.replicate 64 x = s at hBlk hslen
      obtain ⟨hd3, hSl3, hbw3, h1⟩ := HD3.out
      have hbwr : Below w.heap.size w wr := hbw3.trans (hbr.mono hbw3.size)
      have hsr := hbr.size
      have hsB' := hBlk.lt
      have hbM : Below wr.heap.size wr (wr.alloc (.map #[] 0)) := (Below.refl _ wr).alloc (Nat.le_refl _) _
      have HI2 : Hid (TkI w (wr.alloc (.map #[] 0)) db nb sb w3.heap.size wr.heap.size s 0) := by
        have hKr := Keeps.of_below (S := fun _ => False) (hbr.trans (hbM.mono hsr))
        exact ⟨mb3, k3, 0, B3, _, .map [], hd3.keeps hKr (fun e => e) (fun e => e) (fun e => e), by omega, hSl3.keeps hKr (fun e => e), hne3, World.ownsMap_made wr Tryz.prog 3 _, Nat.le_refl _, ⟨[], rfl⟩, (fun q h => by rw [show has (DataW.map [] : DataW Unit) (ik (q : Int)) = false from rfl] at h; cases h), (fun q h => by rw [show has (DataW.map [] : DataW Unit) (ik q) = false from rfl] at h; cases h), hBlk.keep (Keeps.of_below (S := fun _ => False) hbM) (fun e => e), by omega, by omega, by omega, hbwr.alloc hbwr.size _⟩
      have HA : Hid (IntsAt w w.heap.size a1 n1 A1) := h1
      have HSl : Hid (s.length = 64) := hslen
      clear HI HD3 hd3 hSl3 hbw3 h1 hrow hbr hbwr hBlk hbM hslen hss
      go_wp2_with fail
      clear hmm
      have hsM : (wr.alloc (.map #[] 0)).heap.size = wr.heap.size + 1 := by simp
      generalize wr.alloc (.map #[] 0) = wM at HI2 hsM ⊢
      generalize hbm : wr.heap.size = bm at *
      rw [show ((64 : Nat) : Int) = (64 : Int) from rfl]
      go_loopw [12] (fun s12 wq => ∃ i : Nat, i ≤ 20 ∧ s12 = .int .i64 i ∧ Hid (TkI w wq db nb sb w3.heap.size bm s i)) (fun s12 _ => 20 - (RowKit.intOf s12).toNat)
      case atStart => exact ⟨0, by omega, rfl, HI2⟩
      case round => as_aux_lemma =>
        obtain ⟨i, hi, rfl, HI⟩ := hrel
        clear HI2
        obtain ⟨mb, k, n, B, D, Dw, hd, hk, hS, hne, hown, hn, hIM, hkeys, hk0, hB, hbmn, hgn, hlow, hbq⟩ := HI.out
        by_cases hcond : i < 20 ∧ i < n1
        · obtain ⟨hi20, hin⟩ := hcond
          obtain ⟨b1, o1, rfl, hcell⟩ := (HA.out.below hbq).cell i hin
          generalize A1.getD i 0 = xv at hcell
          have hxr := rem_any xv 62 (by omega)
          -- ROUND2
          obtain ⟨q, hq, hq2, hq64⟩ : ∃ q : Nat, 2 + xv.tmod 62 % 62 = (q : Int) ∧ 2 ≤ q ∧ q < 64 := ⟨(2 + xv.tmod 62 % 62).toNat, by omega, by omega, by omega⟩
          have hkey := key_mkT (q : Int) (by omega) (by omega)
          have HW : Hid (Calls Tryz.prog 30 #[.pointer (some ⟨db, 0, none⟩), .int .i64 (q : Int), .slice (some ⟨w3.heap.size, 0, none⟩) 64 64] wr fun e w' => e = .returned (.int .i64 0) ∧ w'.ownsMap Tryz.prog 3 (plainElem (H := Unit) Tryz.prog 4) bm n Dw ∧ Hid (∀ w6, w6.ownsMap Tryz.prog 3 (plainElem (H := Unit) Tryz.prog 4) bm (n + 1) (Dw.put (ik (q : Int)) (.lit (.bool true))) → w'.grownBy w6 (some bm) → TkI w w6 db nb sb w3.heap.size bm s (i + 1))) := by
            show Calls _ _ _ _ _
            refine (write_ok hd q hq64 s HSl.out w3.heap.size 0 64 hB.range hgn.2.2.1 (by unfold maxLen; omega)).mono ?_
            rintro e w' ⟨k6, D6, rfl, hk6, hd6, hkp6⟩
            have hd6 : DevAt w' db nb mb 64 64 (put B q s) k6 D6 0 false := hd6
            have hown6 := own_keepsT hown hkp6 (by omega)
            refine ⟨rfl, hown6, fun w6 ho hg6 => ?_⟩
            have hkm : Keeps (fun i => i = bm) w' w6 := (Keeps.refl (fun i => i = bm) w').grown hg6 (fun k e => by cases e; rfl)
            have hs6 := hkp6.size
            refine ⟨mb, k6, n + 1, put B q s, D6, Dw.put (ik (q : Int)) (.lit (.bool true)), hd6.keeps hkm (by omega) (by omega) (by omega), by omega, (hS.keeps hkp6 (by omega)).keeps hkm (by omega), hne, ho, by omega, ?_, ?_, ?_, (hB.keep hkp6 (by omega)).keep hkm (by omega), hbmn, hgn, hlow, (hbq.trans (hkp6.below hbq.size (fun i e => by omega))).trans (hkm.below (by have := hbq.size; omega) (fun i e => by omega))⟩
            · exact (own_tidy ho).isMap
            · intro r hr
              rw [has_put Dw hIM] at hr
              by_cases e : r = q
              · subst e
                exact ⟨hq2, hq64, sec_put_same hd.len hq64 HSl.out⟩
              · rw [if_neg (by omega)] at hr
                obtain ⟨z1, z2, z3⟩ := hkeys r hr
                exact ⟨z1, z2, (sec_put_other hd.len hq64 HSl.out e).trans z3⟩
            · intro y hy
              rw [has_put Dw hIM] at hy
              split at hy
              · omega
              · exact hk0 y hy
          have Hq : Hid (2 + xv.tmod 62 % 62 = (q : Int)) := hq
          clear HI hd hS hown hkeys hk0 hB hbq hIM hq
          go_wp2_with fail
          rw [Hq.out]
          clear hxr hcell
          refine HW.out.mono ?_
          rintro e w5 ⟨rfl, hown5, HN5⟩
          clear HW
          go_wp2_with (at_mapUpdate; refine wpList_mapUpdate_own _ rfl _ _ _ 58 rfl 3 4 law3 Tryz.underlying58 (plainElem (H := Unit) Tryz.prog 4) bm n Dw rfl hown5 (by unfold maxLen; omega) _ _ _ rfl rfl hkey (.lit (.bool true)) [] (plainElem_bool Tryz.underlying4 true) ?_)
          intro w6 hown6 hg6
          have HN : Hid (TkI w w6 db nb sb w3.heap.size bm s (i + 1)) := HN5.out w6 hown6 hg6
          clear hown5 HN5 hown6 hg6
          go_wp2_with fail
          exact ⟨⟨i + 1, by omega, by go_num, HN⟩, by simp [RowKit.intOf]; omega⟩
        · have hbm0 := hown.lt
          have HSet : Hid (Calls Tryz.prog 31 #[.pointer (some ⟨sb, 0, none⟩), .slice (some ⟨wr.heap.size, 0, none⟩) 1 1] (wr.alloc (.cells #[.int .i64 2] 2)) fun e w' => e = .returned (.int .i64 0) ∧ ∃ mb' k' B', DevAt w' db nb mb' 64 64 B' k' (.map []) 0 false ∧ k' ≤ 100 ∧ w'.ownsMap Tryz.prog 3 (plainElem (H := Unit) Tryz.prog 4) bm n Dw ∧ BlkAt w' w3.heap.size s ∧ (∀ q : Nat, has Dw (ik q) = true → 2 ≤ q ∧ q < 64 ∧ sec B' q = s) ∧ Below w.heap.size w w') := by
            show Calls _ _ _ _ _
            have hf2 : AllFit [2] := fun q hq => by simp at hq; omega
            have hI2 : IntsAt (wr.alloc (.cells #[.int .i64 2] 2)) (wr.alloc (.cells #[.int .i64 2] 2)).heap.size (some ⟨wr.heap.size, 0, none⟩) 1 [2] := ints_new wr [2] hf2
            have hbA : Below wr.heap.size wr (wr.alloc (.cells #[.int .i64 2] 2)) := (Below.refl _ _).alloc (Nat.le_refl _) _
            have hKA := Keeps.of_below (S := fun _ => False) hbA
            have hsA := hbA.size
            refine (set_at (hd.keeps hKA (fun e => e) (fun e => e) (fun e => e)) (hS.keeps hKA (fun e => e)) hne (by omega) (some ⟨wr.heap.size, 0, none⟩) 1 [2] (by simp) hI2).mono ?_
            rintro e w' ⟨code, mb', k', B', D', left', down', rfl, hd', hk', hm', hK', hO', _⟩
            have hsec : ∀ q : Nat, 2 ≤ q → sec B' q = sec B q := fun q hq => save_sec hd.len (by omega) (by simp) hf2 hO' hq
            obtain ⟨rfl, hG'⟩ := save_good hd.len (by omega) (by simp) hf2 hO'
            obtain ⟨rfl, rfl, rfl⟩ : D' = .map [] ∧ left' = 0 ∧ down' = false := ⟨hG'.d, hG'.l, hG'.dn⟩
            refine ⟨rfl, mb', k', B', hd', by omega, own_keepsT (own_keepsT hown hKA (fun e => e)) hK' (by omega), (hB.keep hKA (fun e => e)).keep hK' (by omega), fun q hq => ?_, (hbq.trans (hbA.mono hbq.size)).trans (hK'.below (by have := hbq.size; omega) (fun i e => by omega))⟩
            obtain ⟨z1, z2, z3⟩ := hkeys q hq
            exact ⟨z1, z2, (hsec q z1).trans z3⟩
          have HK0 : Hid (∀ x : Int, has Dw (ik x) = true → 0 ≤ x) := hk0
          clear HI hd hS hown hkeys hk0 hB hbq hIM
          rcases (show n1 ≤ i ∨ (i < n1 ∧ 20 ≤ i) by omega) with hex | ⟨hex1, hex2⟩
          all_goals
            go_wp2_with fail
            refine HSet.out.mono ?_
            rintro e w5 ⟨rfl, mb5, k5, B5, hd5, hk5, hown5, hB5, hkeys5, hbw5⟩
            clear HSet
            go_wp2_with fail
            have hKn : KeepB w5 0 none 0 [] := ⟨rfl, Or.inl rfl⟩
            refine (crash_l hd5 (by omega) 0 hKn).mono ?_
            rintro e w6 ⟨L6, db6, nb6, mb6, cap6, hLp6, _, rfl, y1, y2, y3, hd6, hb6⟩
            rw [crash_nothing hLp6] at hd6
            have hK6 := Keeps.of_below (S := fun _ => False) hb6
            have hown6 := own_keepsT hown5 hK6 (fun e => e)
            have hB6 := hB5.keep hK6 (fun e => e)
            have hbw6 := hbw5.trans (hb6.mono hbw5.size)
            have HH6 : Hid (DevAt w6 db6 nb6 mb6 64 cap6 B5 0 (.map []) 0 false ∧ BlkAt w6 w3.heap.size s ∧ Below w.heap.size w w6 ∧ ∀ q : Nat, has Dw (ik q) = true → 2 ≤ q ∧ q < 64 ∧ sec B5 q = s) := ⟨hd6, hB6, hbw6, hkeys5⟩
            clear hd5 hown5 hB5 hkeys5 hbw5 hKn hLp6 hd6 hB6 hbw6 hK6 hb6
            go_wp2_with (at_range; refine wpList_range_own _ rfl _ 58 rfl 3 4 law3 Tryz.underlying58 (plainElem (H := Unit) Tryz.prog 4) bm n Dw rfl hown6 ?_)
            intro w7 hrg7 hg7 hs7
            have hk7 : Keeps (fun _ => False) w6 w7 := (Keeps.refl _ w6).grown hg7 (fun k e => by cases e)
            have hb67 : Below w6.heap.size w6 w7 := hk7.below (Nat.le_refl _) (fun _ e => e.elim)
            have HL0 : Hid (TkR w w7 db6 nb6 mb6 cap6 B5 w3.heap.size bm w6.heap.size n s Dw) := by
              obtain ⟨z1, z2, z3, z4⟩ := HH6.out
              exact ⟨_, _, hrg7, fun kl h => h, z1.keeps hk7 (fun e => e) (fun e => e) (fun e => e), z2.keep hk7 (fun e => e), z3.trans (hb67.mono z3.size)⟩
            have HKeys : Hid (∀ q : Nat, has Dw (ik q) = true → 2 ≤ q ∧ q < 64 ∧ sec B5 q = s) := HH6.out.2.2.2
            have d1 := HH6.out.1.dlt
            have d2 := HH6.out.1.nlt
            have d3 := HH6.out.1.mlt
            have d4 := HH6.out.2.1.lt
            have d5 := HH6.out.2.2.1.size
            clear HH6 hrg7 hg7 hown6 hb67 hk7
            go_wp2_with fail
            go_loopw [15] (fun _ wr => Hid (TkR w wr db6 nb6 mb6 cap6 B5 w3.heap.size bm w6.heap.size n s Dw)) (fun _ wr => wr.rangeLeft bm w6.heap.size)
            case atStart => exact HL0
            case round => as_aux_lemma =>
              obtain ⟨left, cnt, hrg, hleft, hd, hB, hb⟩ := hrel.out
              clear hrel HL0
              go_wp2_with (at_next; refine wpList_next_ranges _ rfl _ rfl 3 law3 (plainElem (H := Unit) Tryz.prog 4) (Value.int .i64) (fun v : Value => v) invKT (fun v _ _ => ⟨v, rfl⟩) bm w6.heap.size n _ _ _ rfl hrg ?_ ?_)
              · intro hc0 hl0
                go_wp2_with fail
                go_ret
                exact ⟨rfl, hb⟩
              · intro y c kl yd yp w8 cnt8 hky hlk hv hat hrg8 hlt8 hg8 hs8 hen
                obtain ⟨y', ey, rfl, _⟩ := Maps.keyOf_int_inv Tryz.underlying3 hky
                cases ey
                have hh : has Dw (ik y) = true := hleft _ hlk
                obtain ⟨q, rfl⟩ : ∃ q : Nat, y = (q : Int) := ⟨y.toNat, by have := HK0.out y hh; omega⟩
                obtain ⟨z1, z2, z3⟩ := HKeys.out q hh
                have HRd : Hid (Calls Tryz.prog 32 #[.pointer (some ⟨db6, 0, none⟩), .int .i64 (q : Int)] w8 fun e w' => ∃ g c, e = .returned (.tuple #[.slice (some ⟨g, 0, none⟩) 64 c, .int .i64 0]) ∧ (convert 34 9 (.slice (some ⟨g, 0, none⟩) 64 c)).run Tryz.prog w' = .ok (.string ⟨s.toArray⟩) w' ∧ (convert 34 9 (.slice (some ⟨w3.heap.size, 0, none⟩) 64 64)).run Tryz.prog w' = .ok (.string ⟨s.toArray⟩) w' ∧ Hid (TkR w w' db6 nb6 mb6 cap6 B5 w3.heap.size bm w6.heap.size n s Dw ∧ w'.rangeLeft bm w6.heap.size < wr.rangeLeft bm w6.heap.size)) := by
                  show Calls _ _ _ _ _
                  have hk8 : Keeps (fun i => i = w6.heap.size) wr w8 := (Keeps.refl (fun i => i = w6.heap.size) wr).grown hg8 (fun k e => by cases e; rfl)
                  have hd8 := hd.keeps hk8 (by omega) (by omega) (by omega)
                  have hB8 := hB.keep hk8 (by omega)
                  have hbw8 := hb.trans (hk8.below hb.size (fun i e => by omega))
                  refine (read_at hd8 q z2).mono ?_
                  rintro e w' ⟨g, c', rfl, hg', hgl', hr', hb'⟩
                  rw [z3] at hr'
                  have hK' := Keeps.of_below (S := fun _ => False) hb'
                  have hrg' := hrg8.kept (w' := w') (row := none) ⟨hb'.os, hb'.tape, hb'.output, hb'.size, fun i hi _ => hb'.block i hi⟩ (by simp) (by simp)
                  refine ⟨g, c', rfl, conv_bytes g 0 64 c' s w' HSl.out hr', conv_bytes w3.heap.size 0 64 64 s w' HSl.out (hB8.keep hK' (fun e => e)).range, ⟨⟨_, cnt8, hrg', fun kl h => hleft kl (by simp only [Bool.and_eq_true] at h; exact h.1), hd8.keeps hK' (fun e => e) (fun e => e) (fun e => e), hB8.keep hK' (fun e => e), hbw8.trans (hb'.mono hbw8.size)⟩, ?_⟩⟩
                  rw [hrg'.left_eq, hrg.left_eq]
                  exact hlt8
                clear hrg hleft hd hB hb hky hlk hv hat hrg8 hlt8 hg8 hs8 hh
                go_wp2_with fail
                refine HRd.out.mono ?_
                rintro e w9 ⟨g9, c9, rfl, hcv, hcb, HN⟩
                clear HRd hen
                go_wp2_with fail
                go_roundw
                case rel => exact HN.out.1
                case measure => exact HN.out.2
end Go.Proofs.YtlmdeafmlommeaaGreatDoor
