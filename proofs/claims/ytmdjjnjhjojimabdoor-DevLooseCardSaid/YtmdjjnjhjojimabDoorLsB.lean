import Derived.Test.YtmdjjnjhjojimabDoorLsA
import Derived.Test.YtmdjjnjhjojimabDoorAgainB
namespace Go.Proofs.YtmdjjnjhjojimabDoor
open Go.RowKit Go.Maps

theorem own_keeps {S : Nat → Prop} {R : Value → Option (DataW Unit × List MemPlace)} {w w' : World} {b n : Nat} {D : DataW Unit} (h : w.ownsMap Tryd.prog 3 R b n D) (hk : Keeps S w w') (hs : ¬ S b) : w'.ownsMap Tryd.prog 3 R b n D := by
  have hlt := h.lt
  obtain ⟨es, clock, hb, F, hs', hD⟩ := h
  exact ⟨es, clock, (hk.block b hlt hs).trans hb, F, hs', hD⟩
theorem own_below {R : Value → Option (DataW Unit × List MemPlace)} {w w' : World} {b n : Nat} {D : DataW Unit} (h : w.ownsMap Tryd.prog 3 R b n D) (hb : Below w.heap.size w w') : w'.ownsMap Tryd.prog 3 R b n D :=
  own_keeps (S := fun _ => False) h (Keeps.of_below hb) (fun e => e)
theorem zero5 (w : World) : (zeroValue 5).run Tryd.prog w = .ok (.int .u8 0) w := by kernel_rfl
theorem zero3 (w : World) : (zeroValue 3).run Tryd.prog w = .ok (.int .i64 0) w := by kernel_rfl
theorem rb_mk (v : Nat) (h : v < 256) : plainElem (H := Unit) Tryd.prog 5 (.int .u8 (v : Int)) = some (.lit (.int .u8 (v : Int)), []) :=
  plainElem_int Tryd.underlying5 (by simp [Lit.wf, IntKind.min, IntKind.max, IntKind.signed, IntKind.bits]; omega)
theorem key_mk (x : Int) (h0 : -9223372036854775808 ≤ x) (h1 : x ≤ 9223372036854775807) : keyOf Tryd.prog 3 (.int .i64 x) = some (ik x) :=
  keyOf_int_mk Tryd.underlying3 (by simp [Lit.wf, IntKind.min, IntKind.max, IntKind.signed, IntKind.bits]; omega)
/-- What a look-up of a byte tells. -/
theorem byteOf_at {D : DataW Unit} {x c : Int} (h : D.atKey (ik x) (.lit (.int .u8 0)) = .lit (.int .u8 c)) : byteOf D x = c.toNat := by unfold byteOf; rw [h]

theorem write_l {w : World} {db nb mb cap : Nat} {B : List UInt8} {k : Nat} {D Dl : DataW Unit} (h : DevAt w db nb mb 64 cap B k D 0 false) (hi : LInv B D Dl) (tL : Tidy Dl) (q : Nat) (hq : q < 64) (v : Nat)
    (sb so sc : Nat) (hsrc : w.rangeAt sb so (bytesV (rep v))) (hsm : sb ≠ mb) (hkm : k ≤ 1000000) :
    Calls Tryd.prog 14 #[.pointer (some ⟨db, 0, none⟩), .int .i64 q, .slice (some ⟨sb, so, none⟩) 64 sc] w fun e w' => ∃ k' D', e = .returned (.int .i64 0) ∧ k' ≤ k + 1 ∧
      DevAt w' db nb mb 64 cap (put B q (rep v)) k' D' 0 false ∧ LInv (put B q (rep v)) D' (Dl.put (ik q) (.lit (.int .u8 (v : Int)))) ∧ Keeps (fun j => j = db ∨ j = nb ∨ j = mb) w w' := by
  have hk2 : k < maxLen := by unfold maxLen; omega
  cases hh : Maps.has D (.int .i64 q)
  · refine (write_new h q hq (rep v) (rep_len v) sb so sc hsrc hsm hk2 hh).mono ?_
    rintro e w' ⟨h1, h2, h3⟩
    exact ⟨_, _, h1, Nat.le_refl _, h2, hi.fresh (own_tidy h.was) tL h.len q v hq hh, h3⟩
  · refine (write_loose h q hq (rep v) (rep_len v) sb so sc hsrc hh).mono ?_
    rintro e w' ⟨h1, h2, h3⟩
    exact ⟨_, _, h1, Nat.le_succ _, h2, hi.loose tL h.len q v hq hh, h3⟩

/-- A slice of bools that reads K. -/
structure KeepL (w : World) (Lim : Nat) (ka : Option Addr) (kl : Nat) (K : List Bool) : Prop where
  len : K.length = kl
  at_ : kl = 0 ∨ ∃ kb ko, ka = some ⟨kb, ko, none⟩ ∧ kb < Lim ∧ w.rangeAt kb ko (K.map Value.bool)
theorem keepL_of {w : World} {ka : Option Addr} {kl kc : Nat} (h : KeepAt w (.slice ka kl kc)) : ∃ K, KeepL w w.heap.size ka kl K := by
  rcases h with ⟨a, c, e⟩ | ⟨kb, ko, c, K, e, h0, hr⟩
  · cases e; exact ⟨[], rfl, Or.inl rfl⟩
  · cases e
    refine ⟨K, rfl, Or.inr ⟨kb, ko, rfl, ?_, hr⟩⟩
    have h1 := hr 0 (.bool K[0]) (by simp [List.getElem?_eq_getElem h0])
    exact World.block_lt_of_cell? w _ h1
theorem KeepL.below {w w' : World} {Lim : Nat} {ka : Option Addr} {kl : Nat} {K : List Bool} (h : KeepL w Lim ka kl K) (hb : Below Lim w w') : KeepL w' Lim ka kl K := by
  refine ⟨h.len, ?_⟩
  rcases h.at_ with h0 | ⟨kb, ko, e, hl, hr⟩
  · exact Or.inl h0
  · exact Or.inr ⟨kb, ko, e, hl, fun j v hv => (hb.cell (p := ⟨kb, ko + j, none⟩) hl).trans (hr j v hv)⟩
theorem KeepL.cell {w : World} {Lim : Nat} {ka : Option Addr} {kl : Nat} {K : List Bool} (h : KeepL w Lim ka kl K) (p : Nat) (hp : p < kl) : ∃ kb ko, ka = some ⟨kb, ko, none⟩ ∧ w.cell? ⟨kb, ko + p, none⟩ = some (.bool (K.getD p false)) := by
  rcases h.at_ with h0 | ⟨kb, ko, e, hl, hr⟩
  · omega
  · have := h.len
    exact ⟨kb, ko, e, hr p _ (by rw [List.getElem?_map, List.getElem?_eq_getElem (by omega)]; simp [List.getD, List.getElem?_eq_getElem (show p < K.length by omega)])⟩
theorem crash_l {w : World} {db nb mb cap : Nat} {B : List UInt8} {k : Nat} {D : DataW Unit} {left : Int} {down : Bool} (h : DevAt w db nb mb 64 cap B k D left down) (hk : k ≤ 1000000) {Lim : Nat} {ka : Option Addr} {kl : Nat} {K : List Bool} (kc : Nat) (hK : KeepL w Lim ka kl K) :
    Calls Tryd.prog 19 #[.pointer (some ⟨db, 0, none⟩), .slice ka kl kc] w fun e w' => ∃ (L : List Int) (db' nb' mb' cap' : Nat), L.Perm (intKeys D) ∧ L.Pairwise (fun x y => x ≤ y) ∧ e = .returned (.pointer (some ⟨db', 0, none⟩)) ∧
      w.heap.size ≤ db' ∧ w.heap.size ≤ nb' ∧ w.heap.size ≤ mb' ∧ DevAt w' db' nb' mb' 64 cap' (crashB D K L B L.length) 0 (.map []) 0 false ∧ Below w.heap.size w w' := by
  rcases hK.at_ with h0 | ⟨kb, ko, rfl, _, hr⟩
  · subst h0
    have hK0 : K = [] := List.eq_nil_of_length_eq_zero hK.len
    subst hK0
    exact crash_none h hk ka kc
  · exact crash_keep h hk kb ko kl kc K hK.len hr
theorem loose_ints {w : World} {db nb mb cap : Nat} {B : List UInt8} {k : Nat} {D : DataW Unit} {left : Int} {down : Bool} (h : DevAt w db nb mb 64 cap B k D left down) (hk : k ≤ 1000000) :
    Calls Tryd.prog 17 #[.pointer (some ⟨db, 0, none⟩)] w fun e w' => ∃ (L : List Int) (la : Option Addr) (lc : Nat), e = .returned (.slice la L.length lc) ∧ IntsAt w' w'.heap.size la L.length L ∧ L.length ≤ k ∧ L.Perm (intKeys D) ∧ L.Pairwise (fun x y => x ≤ y) ∧ Below w.heap.size w w' := by
  refine (loose_row h hk).mono ?_
  rintro e w' ⟨L, h1, h2, h3, h4, h5⟩
  have hfit : AllFit L := fun x hx => by have := h.keys x (h2.subset hx); omega
  rcases h5 with ⟨rfl, rfl⟩ | ⟨g, c, rfl, h6, h7, h8⟩
  · exact ⟨[], none, 0, rfl, ⟨rfl, hfit, Or.inl rfl⟩, h1, h2, h3, h4⟩
  · refine ⟨L, some ⟨g, 0, none⟩, c, rfl, ⟨rfl, hfit, Or.inr ⟨g, 0, rfl, ?_, h8⟩⟩, h1, h2, h3, h4⟩
    have h9 := h8 0 (encZ L[0]) (by simp [List.getElem?_eq_getElem h7])
    exact World.block_lt_of_cell? w' _ h9
theorem byte_of {D : DataW Unit} {x c : Int} {v : Nat} (h : D.atKey (ik x) (.lit (.int .u8 0)) = .lit (.int .u8 c)) (hw : (Lit.int .u8 c).wf = true) (hv : byteOf D x = v) : c = (v : Int) := by
  have h1 := byteOf_at h
  have h2 : 0 ≤ c := by
    have := hw
    simp [Lit.wf, IntKind.min, IntKind.max, IntKind.signed, IntKind.bits] at this
    exact this.1
  omega
theorem byte_lt {c : Int} {v : Nat} (hw : (Lit.int .u8 c).wf = true) (hc : c = (v : Int)) : v < 256 := by
  have := hw
  simp [Lit.wf, IntKind.min, IntKind.max, IntKind.signed, IntKind.bits] at this
  omega
theorem keys_size (D : DataW Unit) : (intKeys D).length = Maps.size D := by cases D <;> simp [intKeys, Maps.size]
/-- Sorted, no one twice: rising. -/
theorem rising {L : List Int} (hs : L.Pairwise (fun x y => x ≤ y)) (hn : L.Nodup) (r : Nat) (hr : r + 1 < L.length) : L.getD r 0 < L.getD (r + 1) 0 := by
  rw [getD_lt L r 0 (by omega), getD_lt L (r + 1) 0 hr]
  have h1 := List.pairwise_iff_getElem.1 hs r (r + 1) (by omega) hr (by omega)
  have h2 := List.pairwise_iff_getElem.1 hn r (r + 1) (by omega) hr (by omega)
  omega

set_option maxRecDepth 100000 in
set_option maxHeartbeats 4000000 in
theorem devLoose_true (a1 : Option Addr) (n1 c1 : Nat) (A : List Int) (ka : Option Addr) (kl kc : Nat) (w : World) (hA : IntsAt w w.heap.size a1 n1 A) (hv : KeepAt w (.slice ka kl kc)) (hg : w.cell? ⟨0, 0, none⟩ = some errType) :
    Calls Tryd.prog 4 #[.slice a1 n1 c1, .slice ka kl kc] w fun e w' => e = .returned (.bool true) ∧ Below w.heap.size w w' := by
  have hmm := @run_makeMap Tryd.prog
  go_enter Tryd.func4, Tryd.ntmps4
  go_wp2_with fail
  refine (begun_true _ hg).mono ?_
  rintro e w1 ⟨rfl, hb1⟩
  clear hg
  go_wp2_with fail
  refine (new_at 64 w1 (by omega) (by omega)).mono ?_
  rintro e w2 ⟨db, nb, mb, rfl, l1, l2, l3, hd2, hb2⟩
  have hb : Below w.heap.size w w2 := hb1.trans (hb2.mono hb1.size)
  have hbs1 := hb1.size
  have HA0 : Hid (IntsAt w w.heap.size a1 n1 A) := hA
  have HV0 : Hid (KeepAt w (.slice ka kl kc)) := hv
  have hdl := hd2.dlt
  have hnl := hd2.nlt
  have hml := hd2.mlt
  clear hb1 hb2 hA hv
  go_wp2_with fail
  have hd3 := hd2.keeps ((Keeps.refl (fun _ => False) w2).alloc (.map #[] 0)) (fun e => e) (fun e => e) (fun e => e)
  have hb3 : Below w.heap.size w (w2.alloc (.map #[] 0)) := hb.alloc hb.size _
  have hbase3 := World.ownsMap_made w2 Tryd.prog 3 (plainElem (H := Unit) Tryd.prog 5)
  obtain ⟨bm, hbm⟩ : ∃ bm, w2.heap.size = bm := ⟨_, rfl⟩
  have hbs2 := hb.size
  rw [hbm] at hbase3 hdl hnl hml hbs2 ⊢
  clear hd2 hb hmm hbm
  go_loopw [8] (fun s8 wr => ∃ (t k n : Nat) (B : List UInt8) (D Db : DataW Unit), t ≤ 66 ∧ t % 3 = 0 ∧ s8 = .int .i64 t ∧ DevAt wr db nb mb 64 64 B k D 0 false ∧ k ≤ t ∧ wr.ownsMap Tryd.prog 3 (plainElem (H := Unit) Tryd.prog 5) bm n Db ∧ n ≤ t ∧ BInv B Db t ∧ Below w.heap.size w wr) (fun s8 _ => 66 - (RowKit.intOf s8).toNat)
  case atStart => exact ⟨0, 0, 0, _, _, _, by omega, rfl, rfl, hd3, Nat.le_refl _, hbase3, Nat.le_refl _, BInv.start, hb3⟩
  case round =>
    obtain ⟨t, k, n, B, D, Db, ht, ht3, rfl, hd, hk, hown, hn, hB, hbr⟩ := hrel
    clear hd3 hb3 hbase3
    have hbrs := hbr.size
    by_cases hlt : t < 64
    · have hkey := key_mk t (by omega) (by omega)
      have hdmb := hown.lt
      have HK : Hid (t % 3 = 0) := ht3
      clear ht3
      go_wp2_with (at_mapUpdate; refine wpList_mapUpdate_own _ rfl _ _ _ 50 rfl 3 5 law3 Tryd.underlying50 (plainElem (H := Unit) Tryd.prog 5) bm n Db rfl hown (by unfold maxLen; omega) _ _ _ rfl rfl hkey (.lit (.int .u8 ((t + 1 : Nat) : Int))) [] ?q1 ?_)
      case q1 => exact rb_mk (t + 1) (by omega)
      intro w4 hown4 hg4
      have hk4 : Keeps (fun i => i = bm) wr w4 := (Keeps.refl (fun i => i = bm) wr).grown hg4 (fun k e => by cases e; rfl)
      have hd4 := hd.keeps hk4 (by omega) (by omega) (by omega)
      have hb4 : Below w.heap.size w w4 := hbr.trans (hk4.below hbrs (fun i e => by omega))
      have hIM := (own_tidy hown).isMap
      have hBl := hd.len
      clear hd hown hg4 hk4 hbr
      go_wp2_with fail
      refine (bytes_int (t + 1) (by omega) _ (by omega) _).mono ?_
      rintro e w5 ⟨g5, rfl, h51, h52, hr5, hb5⟩
      have hd5 := hd4.keeps (Keeps.of_below (S := fun _ => False) hb5) (fun e => e) (fun e => e) (fun e => e)
      have hown5 := own_below hown4 hb5
      have hb5' : Below w.heap.size w w5 := hb4.trans (hb5.mono hb4.size)
      have hd4m := hd4.mlt
      clear hd4 hown4 hb4
      go_wp2_with fail
      refine (write_ok hd5 t hlt (rep (t + 1)) (rep_len _) g5 0 64 hr5 (by omega) (by unfold maxLen; omega)).mono ?_
      rintro e w6 ⟨k6, D6, rfl, hk6, hd6, hkp6⟩
      have hd6 : DevAt w6 db nb mb 64 64 (put B t (rep (t + 1))) k6 D6 0 false := hd6
      have hown6 := own_keeps hown5 hkp6 (by show ¬ (bm = db ∨ bm = nb ∨ bm = mb); omega)
      have hb6 : Below w.heap.size w w6 := hb5'.trans (hkp6.below hb5'.size (fun i e => by omega))
      clear hd5 hown5 hkp6 hb5 hb5' hr5
      go_wp2_with fail
      go_roundw
      case rel => exact ⟨t + 3, k6, n + 1, _, _, _, by have := HK.out; omega, by have := HK.out; omega, by go_num, hd6, by omega, hown6, by omega, hB.step hIM hBl hlt HK.out, hb6⟩
      case measure => simp [RowKit.intOf]; omega
    · have ht66 : t = 66 := by omega
      subst ht66
      clear ht3
      go_wp2_with fail
      refine (flush_any hd).mono ?_
      rintro e w4 ⟨rfl, hd4, hk4⟩
      have hd4 : DevAt w4 db nb wr.heap.size 64 64 B 0 (.map []) 0 false := hd4
      have hmb2 : w.heap.size ≤ wr.heap.size := hbrs
      have hown4 := own_keeps hown hk4 (by show ¬ bm = db; omega)
      have hb4 : Below w.heap.size w w4 := hbr.trans (hk4.below hbrs (fun i e => by omega))
      have hbml := hown.lt
      clear hd hown hk4 hbr
      generalize wr.heap.size = mb2 at hd4 hmb2 hbml
      go_wp2_with fail
      refine (loose_none hd4).mono ?_
      rintro e w5 ⟨rfl, hb5⟩
      have hd5 := hd4.keeps (Keeps.of_below (S := fun _ => False) hb5) (fun e => e) (fun e => e) (fun e => e)
      have hown5 := own_below hown4 hb5
      have hb5' : Below w.heap.size w w5 := hb4.trans (hb5.mono hb4.size)
      have hd5m := hd5.mlt
      have hd5d := hd5.dlt
      have hd5n := hd5.nlt
      have hbm5 := hown5.lt
      have HDb : Hid (∀ i : Nat, i < 64 → byteOf Db i = bUp 66 i) := fun i hi => (hB i hi).2
      have hLI := LInv.start hB
      have hbs5 := hb5'.size
      clear hd4 hown4 hb4 hB hb5
      have hmm := @run_makeMap Tryd.prog
      go_wp2_with fail
      clear hmm
      have hd6 := hd5.keeps ((Keeps.refl (fun _ => False) w5).alloc (.map #[] 0)) (fun e => e) (fun e => e) (fun e => e)
      have hb6 : Below w.heap.size w (w5.alloc (.map #[] 0)) := hb5'.alloc hbs5 _
      have hlast6 := World.ownsMap_made w5 Tryd.prog 3 (plainElem (H := Unit) Tryd.prog 5)
      have hbase6 := hown5.alloc (.map #[] 0)
      obtain ⟨lm, hlm⟩ : ∃ lm, w5.heap.size = lm := ⟨_, rfl⟩
      rw [hlm] at hlast6 hd5m hd5d hd5n hbm5 hbs5 ⊢
      clear hd5 hown5 hb5' hlm
      go_loopw [10] (fun s10 wr => ∃ (j k nl : Nat) (B : List UInt8) (D Dl : DataW Unit), j ≤ 40 ∧ s10 = .int .i64 j ∧ DevAt wr db nb mb2 64 64 B k D 0 false ∧ k ≤ j ∧ wr.ownsMap Tryd.prog 3 (plainElem (H := Unit) Tryd.prog 5) lm nl Dl ∧ nl ≤ j ∧ LInv B D Dl ∧ wr.ownsMap Tryd.prog 3 (plainElem (H := Unit) Tryd.prog 5) bm n Db ∧ Below w.heap.size w wr) (fun s10 _ => 40 - (RowKit.intOf s10).toNat)
      case atStart => exact ⟨0, 0, 0, _, _, _, by omega, rfl, hd6, Nat.le_refl _, hlast6, Nat.le_refl _, hLI, hbase6, hb6⟩
      case round =>
        obtain ⟨j, k, nl, B, D, Dl, hj, rfl, hd, hk, hlast, hnl, hLI, hbase, hbr⟩ := hrel
        clear hd6 hb6 hlast6 hbase6
        have hbrs := hbr.size
        by_cases hlt : j < 40 ∧ j < n1
        · obtain ⟨hlt1, hlt2⟩ := hlt
          have hAr := HA0.out.below hbr
          obtain ⟨b1, o1, rfl, hcell⟩ := hAr.cell j hlt2
          clear hAr
          generalize A.getD j 0 = x at hcell
          have hN1 := rem_any x 64 (by omega)
          go_upto_region 19 with fail
          have hq : 0 ≤ (x.tmod 64 + 64) % 64 ∧ (x.tmod 64 + 64) % 64 < 64 := by omega
          clear hN1
          generalize (x.tmod 64 + 64) % 64 = y at hq ⊢
          obtain ⟨q, rfl⟩ : ∃ q : Nat, y = (q : Int) := ⟨y.toNat, by omega⟩
          have hq64 : q < 64 := by omega
          clear hq
          have hkey := key_mk q (by omega) (by omega)
          have tL := own_tidy hlast
          have hlml := hlast.lt
          go_wp2_with (at_mapUpdate; refine wpList_mapUpdate_own _ rfl _ _ _ 50 rfl 3 5 law3 Tryd.underlying50 (plainElem (H := Unit) Tryd.prog 5) lm nl Dl rfl hlast (by unfold maxLen; omega) _ _ _ rfl rfl hkey (.lit (.int .u8 ((100 + j : Nat) : Int))) [] ?q1 ?_)
          case q1 => exact rb_mk (100 + j) (by omega)
          intro w4 hlast4 hg4
          have hk4 : Keeps (fun i => i = lm) wr w4 := (Keeps.refl (fun i => i = lm) wr).grown hg4 (fun k e => by cases e; rfl)
          have hd4 := hd.keeps hk4 (by omega) (by omega) (by omega)
          have hbase4 := own_keeps hbase hk4 (by show ¬ bm = lm; omega)
          have hb4 : Below w.heap.size w w4 := hbr.trans (hk4.below hbrs (fun i e => by omega))
          have hat4 := atKey_put_same tL.isMap (ik_key q) (.lit (.int .u8 ((100 + j : Nat) : Int))) (.lit (.int .u8 0))
          have HAT : Hid ((Dl.put (ik q) (.lit (.int .u8 ((100 + j : Nat) : Int)))).atKey (ik q) (.lit (.int .u8 0)) = .lit (.int .u8 ((100 + j : Nat) : Int))) := hat4
          clear hd hlast hbase hg4 hk4 hbr hat4
          go_wp2_with (at_lookup; refine wpList_lookup_own_int _ rfl _ _ 50 rfl 3 5 .u8 law3 Tryd.underlying50 Tryd.underlying5 (zero5 _) lm (nl + 1) _ rfl hlast4 _ _ rfl hkey ?_; intro c hat _; (have hce : c = ((100 + j : Nat) : Int) := (by have h9 := HAT.out.symm.trans hat; cases h9; rfl)); subst hce; clear hat)
          refine (bytes_int (100 + j) (by omega) _ rfl _).mono ?_
          rintro e w5 ⟨g5, rfl, h51, h52, hr5, hb5⟩
          have hd5 := hd4.keeps (Keeps.of_below (S := fun _ => False) hb5) (fun e => e) (fun e => e) (fun e => e)
          have hlast5 := own_below hlast4 hb5
          have hbase5 := own_below hbase4 hb5
          have hb5' : Below w.heap.size w w5 := hb4.trans (hb5.mono hb4.size)
          have hd4m := hd4.mlt
          clear hd4 hlast4 hbase4 hb4 HAT
          go_wp2_with fail
          refine (write_l hd5 hLI tL q hq64 (100 + j) g5 0 64 hr5 (by omega) (by omega)).mono ?_
          rintro e w6 ⟨k6, D6, rfl, hk6, hd6, hL6, hkp6⟩
          have hlast6 := own_keeps hlast5 hkp6 (by show ¬ (lm = db ∨ lm = nb ∨ lm = mb2); omega)
          have hbase6 := own_keeps hbase5 hkp6 (by show ¬ (bm = db ∨ bm = nb ∨ bm = mb2); omega)
          have hb6 : Below w.heap.size w w6 := hb5'.trans (hkp6.below hb5'.size (fun i e => by omega))
          clear hd5 hlast5 hbase5 hkp6 hb5 hb5' hr5
          go_wp2_with fail
          go_roundw
          case rel => exact ⟨j + 1, k6, nl + 1, _, _, _, by omega, by go_num, hd6, by omega, hlast6, by omega, hL6, hbase6, hb6⟩
          case measure => simp [RowKit.intOf]; omega
        · by_cases hn : j < n1
          all_goals
            try have hj40 : ¬ j < 40 := by omega
            clear hlt
            have tL := own_tidy hlast
            have hkk := own_keys hd.was
            have hkeys := hd.keys
            go_wp2_with fail
            refine (loose_ints hd (by omega)).mono ?_
            rintro e w7 ⟨L, la, lc, rfl, hL7, hLk, hLp, hLs, hb7⟩
            have hd7 := hd.keeps (Keeps.of_below (S := fun _ => False) hb7) (fun e => e) (fun e => e) (fun e => e)
            have hlast7 := own_below hlast hb7
            have hbase7 := own_below hbase hb7
            have hb7' : Below w.heap.size w w7 := hbr.trans (hb7.mono hbrs)
            have hLnd : L.Nodup := hLp.nodup_iff.2 hkk.1
            have hLm : ∀ x, x ∈ L ↔ Maps.has Dl (ik x) = true := fun x => by rw [hLp.mem_iff, hkk.2, hLI.hh]
            have hLb : ∀ x ∈ L, 0 ≤ x ∧ x < 64 := fun x hx => hkeys x (hLp.subset hx)
            have hsz : Maps.size Dl = L.length := by rw [← hLI.sz, ← keys_size, hLp.length_eq]
            obtain ⟨K, hK⟩ := keepL_of HV0.out
            have hs7 := hb7.size
            clear hd hlast hbase hbr hb7 hkk hkeys
            go_wp2_with fail
            refine (crash_l hd7 (by omega) kc (hK.below hb7')).mono ?_
            rintro e w8 ⟨L', dc, nc, mc, cc, hLp', hLs', rfl, m1, m2, m3, hc8, hb8⟩
            have hLL : L' = L := sorted_one hLp' hLp hLs' hLs
            subst hLL
            have hsec : ∀ i : Nat, i < 64 → ((i : Int) ∉ L' → sec (crashB D K L' B L'.length) i = rep (bUp 66 i)) ∧ (∀ p, p < L'.length → L'.getD p 0 = (i : Int) → sec (crashB D K L' B L'.length) i = if K.getD p false = true then rep (byteOf Dl i) else rep (bUp 66 i)) := by
              intro i hi
              have h1 := crash_sec hd7 K L' hLb hLnd i hi L'.length (Nat.le_refl _)
              refine ⟨fun hn => ?_, fun p hp he => ?_⟩
              · rw [h1.1 (by rw [List.take_length]; exact hn)]
                refine hLI.no i hi ?_
                cases hx : Maps.has Dl (ik (i : Nat))
                · rfl
                · exact absurd ((hLm _).2 hx) hn
              · have hin : Maps.has Dl (ik (i : Nat)) = true := (hLm _).1 (by rw [← he, getD_lt L' p 0 hp]; exact List.getElem_mem hp)
                rw [h1.2 p hp he, (hLI.yes i hi hin).1, (hLI.yes i hi hin).2]
            have HSEC : Hid (∀ i : Nat, i < 64 → ((i : Int) ∉ L' → sec (crashB D K L' B L'.length) i = rep (bUp 66 i)) ∧ (∀ p, p < L'.length → L'.getD p 0 = (i : Int) → sec (crashB D K L' B L'.length) i = if K.getD p false = true then rep (byteOf Dl i) else rep (bUp 66 i))) := hsec
            clear hsec
            generalize crashB D K L' B L'.length = Bc at hc8 HSEC
            have hlast8 := own_below hlast7 hb8
            have hbase8 := own_below hbase7 hb8
            have hL8 := hL7.below hb8
            have hb8' : Below w.heap.size w w8 := hb7'.trans (hb8.mono hb7'.size)
            have hs8 := hb8.size
            clear hd7 hlast7 hbase7 hL7 hb7' hb8 hLp hLs'
            have hlen8 := fun ty => hlast8.len Tryd.underlying50 ty
            rw [hsz] at hlen8
            go_wp2_with fail
            refine (loose_none hc8).mono ?_
            rintro e w9 ⟨rfl, hb9⟩
            clear hlen8
            have hc9 := hc8.keeps (Keeps.of_below (S := fun _ => False) hb9) (fun e => e) (fun e => e) (fun e => e)
            have hlast9 := own_below hlast8 hb9
            have hbase9 := own_below hbase8 hb9
            have hL9 := hL8.below (hb9.mono hs8)
            have hb9' : Below w.heap.size w w9 := hb8'.trans (hb9.mono hb8'.size)
            have hs9 := hb9.size
            have hc9m := hc9.mlt
            have hc9d := hc9.dlt
            have hc9n := hc9.nlt
            have hl9 := hlast9.lt
            have hbm9 := hbase9.lt
            clear hc8 hlast8 hbase8 hL8 hb8' hb9
            have hmm := @run_makeMap Tryd.prog
            go_wp2_with fail
            clear hmm
            have hpl10 := World.ownsMap_made w9 Tryd.prog 3 (plainElem (H := Unit) Tryd.prog 3)
            have hkA : Keeps (fun i => i = w9.heap.size) (w9.alloc (.map #[] 0)) (w9.alloc (.map #[] 0)) := Keeps.refl _ _
            have hlast10 := hlast9.alloc (.map #[] 0)
            have hbase10 := hbase9.alloc (.map #[] 0)
            have hc10 := hc9.keeps ((Keeps.refl (fun _ => False) w9).alloc (.map #[] 0)) (fun e => e) (fun e => e) (fun e => e)
            have hL10 := hL9.below ((((Below.refl _ w9).alloc (Nat.le_refl _) (.map #[] 0))).mono (by omega))
            have hb10 : Below w.heap.size w (w9.alloc (.map #[] 0)) := hb9'.alloc hb9'.size _
            have hbs9 := hb9'.size
            obtain ⟨pm, hpm⟩ : ∃ pm, w9.heap.size = pm := ⟨_, rfl⟩
            have hs10 : pm ≤ (w9.alloc (.map #[] 0)).heap.size := by simp; omega
            have hs10' : w7.heap.size ≤ (w9.alloc (.map #[] 0)).heap.size := by simp; omega
            rw [hpm] at hpl10 hkA hs9 hc9m hc9d hc9n hl9 hbm9 hbs9 ⊢
            clear hc9 hlast9 hbase9 hL9 hb9' hpm
            generalize w9.alloc (.map #[] 0) = wA at hpl10 hkA hlast10 hbase10 hc10 hL10 hb10 hs10 hs10' ⊢
            have hLk' : L'.length ≤ 40 := by omega
            go_loopw [109] (fun s109 wr => ∃ (p np : Nat) (Dp : DataW Unit), p ≤ L'.length ∧ s109 = .int .i64 p ∧ PInv L' Dp p ∧ wr.ownsMap Tryd.prog 3 (plainElem (H := Unit) Tryd.prog 3) pm np Dp ∧ np ≤ p ∧ Keeps (fun i => i = pm) wA wr) (fun s109 _ => L'.length - (RowKit.intOf s109).toNat)
            case atStart => exact ⟨0, 0, _, Nat.zero_le _, rfl, PInv.start L', hpl10, Nat.le_refl _, hkA⟩
            case round =>
              obtain ⟨p, np, Dp, hp, rfl, hP, hpl, hnp, hkp⟩ := hrel
              clear hpl10 hkA
              have hlr := own_keeps hlast10 hkp (by show ¬ lm = pm; omega)
              have hbpm : Below pm wA wr := hkp.below hs10 (fun i e => by omega)
              by_cases hlt : p < L'.length
              · have hLr := hL10.below (hbpm.mono (by omega))
                obtain ⟨b1, o1, rfl, hcell⟩ := hLr.cell p hlt
                have hxin : L'.getD p 0 ∈ L' := by rw [getD_lt L' p 0 hlt]; exact List.getElem_mem hlt
                have hxb := hLb _ hxin
                have hhas := (hLm _).1 hxin
                have hkey := key_mk (L'.getD p 0) (by omega) (by omega)
                have HPS := hP.step (own_tidy hpl).isMap hLnd hlt
                have HPI : Hid (PInv L' (Dp.put (ik (L'.getD p 0)) (.lit (.int .i64 (p : Nat)))) (p + 1)) := HPS
                have hprev : ∀ r, p = r + 1 → wr.cell? ⟨b1, o1 + r, none⟩ = some (.int .i64 (L'.getD r 0)) ∧ L'.getD r 0 < L'.getD p 0 := by
                  intro r hr
                  subst hr
                  refine ⟨?_, rising hLs hLnd r hlt⟩
                  obtain ⟨b, o, e, h9⟩ := hLr.cell r (by omega)
                  cases e
                  exact h9
                have HPV : Hid (∀ r, p = r + 1 → wr.cell? ⟨b1, o1 + r, none⟩ = some (.int .i64 (L'.getD r 0)) ∧ L'.getD r 0 < L'.getD p 0) := hprev
                clear HPS hP hprev hLr
                generalize L'.getD p 0 = x at hcell hxin hxb hhas hkey HPI HPV
                go_upto_region 31 with (at_lookup; refine wpList_lookup_own_ok_int _ rfl _ _ 50 rfl 3 5 .u8 law3 Tryd.underlying50 Tryd.underlying5 (zero5 _) lm nl Dl rfl hlr _ _ rfl hkey ?_; intro cL hat _; rw [hhas]; clear hat)
                by_cases hp0 : 0 < p
                · obtain ⟨r, rfl⟩ : ∃ r, p = r + 1 := ⟨p - 1, by omega⟩
                  obtain ⟨hc2, hlt2⟩ := HPV.out r rfl
                  clear HPV hp0
                  generalize L'.getD r 0 = y at hc2 hlt2
                  go_quiet (fail)
                  have hplq := own_keeps hpl (keeps_drewN (fun _ => False) wr nq) (fun e => e)
                  go_wp2_with (at_mapUpdate; refine wpList_mapUpdate_own _ rfl _ _ _ 52 rfl 3 3 law3 Tryd.underlying52 (plainElem (H := Unit) Tryd.prog 3) pm np Dp rfl hplq (by unfold maxLen; omega) _ _ _ rfl rfl hkey (.lit (.int .i64 ((r + 1 : Nat) : Int))) [] ?q1 ?_)
                  case q1 => exact plainElem_int Tryd.underlying3 (by simp [Lit.wf, IntKind.min, IntKind.max, IntKind.signed, IntKind.bits]; omega)
                  intro wB hplB hgB
                  have hkB : Keeps (fun i => i = pm) wA wB := (hkp.trans (keeps_drewN (fun i => i = pm) wr _)).grown hgB (fun k e => by cases e; rfl)
                  clear hpl hgB hkp hlr hbpm
                  go_wp2_with fail
                  go_roundw
                  case rel => exact ⟨(r + 1) + 1, np + 1, _, by omega, by go_num, HPI.out, hplB, by omega, hkB⟩
                  case measure => simp [RowKit.intOf]; omega
                · clear HPV
                  go_quiet (fail)
                  have hplq := own_keeps hpl (keeps_drewN (fun _ => False) wr nq) (fun e => e)
                  go_wp2_with (at_mapUpdate; refine wpList_mapUpdate_own _ rfl _ _ _ 52 rfl 3 3 law3 Tryd.underlying52 (plainElem (H := Unit) Tryd.prog 3) pm np Dp rfl hplq (by unfold maxLen; omega) _ _ _ rfl rfl hkey (.lit (.int .i64 (p : Int))) [] ?q1 ?_)
                  case q1 => exact plainElem_int Tryd.underlying3 (by simp [Lit.wf, IntKind.min, IntKind.max, IntKind.signed, IntKind.bits]; omega)
                  intro wB hplB hgB
                  have hkB : Keeps (fun i => i = pm) wA wB := (hkp.trans (keeps_drewN (fun i => i = pm) wr _)).grown hgB (fun k e => by cases e; rfl)
                  clear hpl hgB hkp hlr hbpm
                  go_wp2_with fail
                  go_roundw
                  case rel => exact ⟨p + 1, np + 1, _, by omega, by go_num, HPI.out, hplB, by omega, hkB⟩
                  case measure => simp [RowKit.intOf]; omega
              · have hpL : p = L'.length := by omega
                subst hpL
                have hbr2 : Below w.heap.size w wr := hb10.trans (hbpm.mono hbs9)
                have hcr := hc10.keeps hkp (by show ¬ dc = pm; omega) (by show ¬ nc = pm; omega) (by show ¬ mc = pm; omega)
                have hbaser := own_keeps hbase10 hkp (by show ¬ bm = pm; omega)
                have HPm : Hid (PInv L' Dp L'.length) := hP
                have HLm : Hid (∀ x, x ∈ L' ↔ Maps.has Dl (ik x) = true) := hLm
                clear hc10 hbase10 hlast10 hL10 hb10 hkp hbpm hP hLm hLI
                go_wp2_with fail
                go_loopw [18] (fun s18 wr4 => ∃ (i : Nat), i ≤ 64 ∧ s18 = .int .i64 i ∧ DevAt wr4 dc nc mc 64 cc Bc 0 (.map []) 0 false ∧ wr4.ownsMap Tryd.prog 3 (plainElem (H := Unit) Tryd.prog 3) pm np Dp ∧ wr4.ownsMap Tryd.prog 3 (plainElem (H := Unit) Tryd.prog 5) lm nl Dl ∧ wr4.ownsMap Tryd.prog 3 (plainElem (H := Unit) Tryd.prog 5) bm n Db ∧ Below w.heap.size w wr4) (fun s18 _ => 64 - (RowKit.intOf s18).toNat)
                case atStart => exact ⟨0, by omega, rfl, hcr, hpl, hlr, hbaser, hbr2⟩
                case round =>
                  obtain ⟨i, hi, rfl, hc4, hpl4, hl4, hbs4, hb4⟩ := hrel
                  clear hcr hpl hlr hbaser hbr2
                  by_cases hi64 : i < 64
                  · have hkey := key_mk i (by omega) (by omega)
                    go_upto_region 40 with (first
                      | (at_lookup; refine wpList_lookup_own_int _ rfl _ _ 50 rfl 3 5 .u8 law3 Tryd.underlying50 Tryd.underlying5 (zero5 _) bm n Db rfl hbs4 _ _ rfl hkey ?_; intro c hat hwc; (have hce : c = ((bUp 66 i : Nat) : Int) := byte_of hat hwc (HDb.out i hi64)); subst hce; clear hat hwc)
                      | (at_lookup; refine wpList_lookup_own_ok_int _ rfl _ _ 52 rfl 3 3 .i64 law3 Tryd.underlying52 Tryd.underlying3 (zero3 _) pm np Dp rfl hpl4 _ _ rfl hkey ?_; intro c2 hat2 _))
                    go_cut [20, 21, 171] (fun _ _ s171 wx => ∃ b : Bool, s171 = .bool b ∧ wr = wx ∧ ((b = true ∧ sec Bc i = rep (byteOf Dl i)) ∨ (b = false ∧ sec Bc i = rep (bUp 66 i))))
                    case first =>
                      cases hh : Maps.has Dp (ik (i : Int))
                      · have hni : (i : Int) ∉ L' := fun hin => by
                          have := (HPm.out.hh i).2 (by rw [List.take_length]; exact hin)
                          rw [hh] at this; cases this
                        have hsc := ((HSEC.out i hi64).1 hni)
                        have HSC : Hid (sec Bc i = rep (bUp 66 i)) := hsc
                        clear hsc hni hat2
                        go_wp2_with fail
                        go_meet
                        exact ⟨false, rfl, rfl, Or.inr ⟨rfl, HSC.out⟩⟩
                      · have hin : (i : Int) ∈ L' := by
                          have := (HPm.out.hh i).1 hh
                          rwa [List.take_length] at this
                        obtain ⟨p, hp, hpe⟩ := List.getElem_of_mem hin
                        have hpg : L'.getD p 0 = (i : Int) := by rw [getD_lt L' p 0 hp, hpe]
                        have hc2 : c2 = (p : Int) := by
                          have h9 := HPm.out.at_ p hp
                          rw [hpg] at h9
                          have h8 := h9.symm.trans hat2
                          cases h8; rfl
                        subst hc2
                        have hsc := ((HSEC.out i hi64).2 p hp hpg)
                        clear hat2 hpe hpg hin
                        by_cases hpk : p < kl
                        · obtain ⟨kb, ko, rfl, hck⟩ := (hK.below hb4).cell p hpk
                          cases hkp : K.getD p false
                          · rw [hkp] at hsc hck
                            have HSC : Hid (sec Bc i = rep (bUp 66 i)) := hsc
                            clear hsc hkp
                            go_wp2_with fail
                            go_meet
                            exact ⟨false, rfl, rfl, Or.inr ⟨rfl, HSC.out⟩⟩
                          · rw [hkp] at hsc hck
                            have HSC : Hid (sec Bc i = rep (byteOf Dl i)) := hsc
                            clear hsc hkp
                            go_wp2_with fail
                            go_meet
                            exact ⟨true, rfl, rfl, Or.inl ⟨rfl, HSC.out⟩⟩
                        · have hkf : K.getD p false = false := getD_ge K p false (by have := hK.len; omega)
                          rw [hkf] at hsc
                          have HSC : Hid (sec Bc i = rep (bUp 66 i)) := hsc
                          clear hsc hkf
                          go_wp2_with fail
                          go_meet
                          exact ⟨false, rfl, rfl, Or.inr ⟨rfl, HSC.out⟩⟩
                    case rest =>
                    obtain ⟨b, rfl, rfl, hor⟩ := hcut
                    clear hat2
                    rcases hor with ⟨rfl, hs⟩ | ⟨rfl, hs⟩
                    · go_wp2_with (at_lookup; refine wpList_lookup_own_int _ rfl _ _ 50 rfl 3 5 .u8 law3 Tryd.underlying50 Tryd.underlying5 (zero5 _) lm nl Dl rfl hl4 _ _ rfl hkey ?_; intro c3 hat3 hwc3; (have hce : c3 = ((byteOf Dl i : Nat) : Int) := byte_of hat3 hwc3 rfl); (have hv256 : byteOf Dl i < 256 := byte_lt hwc3 hce); subst hce; clear hat3 hwc3)
                      
                      refine (read_at hc4 i hi64).mono ?_
                      rintro e w11 ⟨gx, cx, rfl, x1, x2, hrx, hb11⟩
                      rw [hs] at hrx
                      have hc11 := hc4.keeps (Keeps.of_below (S := fun _ => False) hb11) (fun e => e) (fun e => e) (fun e => e)
                      have hpl11 := own_below hpl4 hb11
                      have hl11 := own_below hl4 hb11
                      have hbs11 := own_below hbs4 hb11
                      have hb11' : Below w.heap.size w w11 := hb4.trans (hb11.mono hb4.size)
                      have hcx : ∀ W, Below w11.heap.size w11 W → (convert 25 9 (.slice (some ⟨gx, 0, none⟩) 64 cx)).run Tryd.prog W = .ok (.string ⟨(rep (byteOf Dl i)).toArray⟩) W := fun W hW => conv_bytes gx 0 64 cx (rep (byteOf Dl i)) W (rep_len _) (fun j v hv => (hW.cell (p := ⟨gx, 0 + j, none⟩) x2).trans (hrx j v hv))
                      clear hc4 hpl4 hl4 hbs4 hb4 hb11 hrx x1 x2
                      go_wp2_with fail
                      refine wp_region_noPanic ?_
                      go_region_held (fun w' => Below w11.heap.size w11 w') (first | assumption | exact Below.refl _ _ | exact below_drew (Below.refl _ _) | exact below_drew ‹_› | exact below_step ‹_› ‹_›)
                        (first
                          | (go_at_call 29; refine (bytes_int _ hv256 _ rfl _).mono ?_; rintro e w12 ⟨g12, rfl, z1, z2, hr12, hb12⟩; have hcv12 := conv_bytes g12 0 64 64 (rep (byteOf Dl i)) w12 (rep_len _) hr12))
                      refine NoPanic.normal ?_
                      have hbE : Below w11.heap.size w11 w12 := by assumption
                      have hc12 := hc11.keeps (Keeps.of_below (S := fun _ => False) hbE) (fun e => e) (fun e => e) (fun e => e)
                      have hpl12 := own_below hpl11 hbE
                      have hl12 := own_below hl11 hbE
                      have hbs12 := own_below hbs11 hbE
                      have hb12' : Below w.heap.size w w12 := hb11'.trans (hbE.mono hb11'.size)
                      clear hcv12 hcx hc11 hpl11 hl11 hbs11 hb11' hbE hb12 hr12
                      go_wp2_with fail
                      go_roundw
                      case rel => exact ⟨i + 1, by omega, by go_num, hc12, hpl12, hl12, hbs12, hb12'⟩
                      case measure => simp [RowKit.intOf]; omega
                    · have hv256 : bUp 66 i < 256 := by unfold bUp; split <;> omega
                      go_wp2_with fail
                      
                      refine (read_at hc4 i hi64).mono ?_
                      rintro e w11 ⟨gx, cx, rfl, x1, x2, hrx, hb11⟩
                      rw [hs] at hrx
                      have hc11 := hc4.keeps (Keeps.of_below (S := fun _ => False) hb11) (fun e => e) (fun e => e) (fun e => e)
                      have hpl11 := own_below hpl4 hb11
                      have hl11 := own_below hl4 hb11
                      have hbs11 := own_below hbs4 hb11
                      have hb11' : Below w.heap.size w w11 := hb4.trans (hb11.mono hb4.size)
                      have hcx : ∀ W, Below w11.heap.size w11 W → (convert 25 9 (.slice (some ⟨gx, 0, none⟩) 64 cx)).run Tryd.prog W = .ok (.string ⟨(rep (bUp 66 i)).toArray⟩) W := fun W hW => conv_bytes gx 0 64 cx (rep (bUp 66 i)) W (rep_len _) (fun j v hv => (hW.cell (p := ⟨gx, 0 + j, none⟩) x2).trans (hrx j v hv))
                      clear hc4 hpl4 hl4 hbs4 hb4 hb11 hrx x1 x2
                      go_wp2_with fail
                      refine wp_region_noPanic ?_
                      go_region_held (fun w' => Below w11.heap.size w11 w') (first | assumption | exact Below.refl _ _ | exact below_drew (Below.refl _ _) | exact below_drew ‹_› | exact below_step ‹_› ‹_›)
                        (first
                          | (go_at_call 29; refine (bytes_int _ hv256 _ rfl _).mono ?_; rintro e w12 ⟨g12, rfl, z1, z2, hr12, hb12⟩; have hcv12 := conv_bytes g12 0 64 64 (rep (bUp 66 i)) w12 (rep_len _) hr12))
                      refine NoPanic.normal ?_
                      have hbE : Below w11.heap.size w11 w12 := by assumption
                      have hc12 := hc11.keeps (Keeps.of_below (S := fun _ => False) hbE) (fun e => e) (fun e => e) (fun e => e)
                      have hpl12 := own_below hpl11 hbE
                      have hl12 := own_below hl11 hbE
                      have hbs12 := own_below hbs11 hbE
                      have hb12' : Below w.heap.size w w12 := hb11'.trans (hbE.mono hb11'.size)
                      clear hcv12 hcx hc11 hpl11 hl11 hbs11 hb11' hbE hb12 hr12
                      go_wp2_with fail
                      go_roundw
                      case rel => exact ⟨i + 1, by omega, by go_num, hc12, hpl12, hl12, hbs12, hb12'⟩
                      case measure => simp [RowKit.intOf]; omega
                  · go_wp2
                    go_ret
                    exact ⟨rfl, hb4⟩
end Go.Proofs.YtmdjjnjhjojimabDoor
