import Derived.Test.YtmdjjnjhjojimaaDoorCrashA
namespace Go.Proofs.YtmdjjnjhjojimaaDoor
open Go.RowKit Go.Maps

set_option maxRecDepth 100000 in
set_option maxHeartbeats 1000000 in
theorem crash_none {w : World} {db nb mb n cap : Nat} {B : List UInt8} {k : Nat} {D : DataW Unit} {left : Int} {down : Bool} (h : DevAt w db nb mb n cap B k D left down) (hk : k ≤ 1000000)
    (ka : Option Addr) (kc : Nat) :
    Calls Tryd.prog 18 #[.pointer (some ⟨db, 0, none⟩), .slice ka 0 kc] w fun e w' => ∃ (L : List Int) (db' nb' mb' cap' : Nat), L.Perm (intKeys D) ∧ L.Pairwise (fun x y => x ≤ y) ∧ e = .returned (.pointer (some ⟨db', 0, none⟩)) ∧
      w.heap.size ≤ db' ∧ w.heap.size ≤ nb' ∧ w.heap.size ≤ mb' ∧ DevAt w' db' nb' mb' n cap' (crashB D [] L B L.length) 0 (.map []) 0 false ∧ Below w.heap.size w w' := by
  have c0 := h.c0
  have hn1 := h.n1
  have hn2 := h.n2
  go_enter Tryd.func18, Tryd.ntmps18
  go_wp2_with (first
    | (go_at_call 46; refine (clone46' _ _ _ _ B _ h.len (by omega) hn2 h.now).mono ?_; rintro e w1 ⟨g, cap', rfl, hg, hr1, ht1, hb1⟩)
    | (go_at_call 42; refine (holding_dev hr1 ht1 h.len hn1 hn2).mono ?_; rintro e w2 ⟨db', mb', rfl, hd2, hm2, hc2, hb2⟩))
  have hw2 : Below w.heap.size w w2 := hb1.trans (hb2.mono hb1.size)
  have h2 : DevAt w2 db nb mb n cap B k D left down := h.keeps (Keeps.of_below (S := fun _ => False) hw2) (fun e => e) (fun e => e) (fun e => e)
  refine (loose_row h2 hk).mono ?_
  rintro e w3 ⟨L, hLk, hperm, hsort, hb3, hcase⟩
  have h3 : DevAt w3 db nb mb n cap B k D left down := h2.keeps (Keeps.of_below (S := fun _ => False) hb3) (fun e => e) (fun e => e) (fun e => e)
  have hc3 : DevAt w3 db' g mb' n cap' B 0 (.map []) 0 false := hc2.keeps (Keeps.of_below (S := fun _ => False) hb3) (fun e => e) (fun e => e) (fun e => e)
  have hw3 : Below w.heap.size w w3 := hw2.trans (hb3.mono hw2.size)
  have hgl : g < w2.heap.size := hc2.nlt
  have hdl := h.dlt
  have hml := h.mlt
  have hs1 := hb1.size
  clear c0 h2 hc2 hb1 hb2 hr1 ht1 hw2
  rcases hcase with ⟨rfl, rfl⟩ | ⟨lg, lc, rfl, hlg, hlp, hlr⟩
  · go_wp2
    refine wp_loop_rounds 1 ?_
    rw [rounds_succ]
    go_wp2
    go_ret
    exact ⟨[], db', g, mb', cap', hperm, hsort, rfl, by omega, hg, by omega, hc3, hw3⟩
  · have hlb : ∀ x ∈ L, 0 ≤ x ∧ x < n := fun x hx => h.keys x (hperm.mem_iff.1 hx)
    go_wp2
    go_loopw [19] (fun j wr => ∃ jn : Nat, jn ≤ L.length ∧ j = .int .i64 jn ∧ DevAt wr db' g mb' n cap' (crashB D [] L B jn) 0 (.map []) 0 false ∧ Keeps (fun i => i = g) w3 wr) (fun j _ => L.length - (RowKit.intOf j).toNat)
    case atStart => exact ⟨0, Nat.zero_le _, rfl, hc3, Keeps.refl _ _⟩
    case round =>
      obtain ⟨jn, hjn, rfl, hcr, hkr⟩ := hrel
      by_cases hlt : jn < L.length
      · have hmem : L.getD jn 0 ∈ L := by rw [getD_lt _ _ _ hlt]; exact List.getElem_mem hlt
        obtain ⟨xi, hxi⟩ : ∃ xi : Nat, L.getD jn 0 = (xi : Int) := ⟨(L.getD jn 0).toNat, by have := (hlb _ hmem).1; omega⟩
        have hxn : xi < n := by have := (hlb _ hmem).2; omega
        have hcell : wr.cell? ⟨lg, jn, none⟩ = some (.int .i64 (xi : Int)) := by
          have e1 := hlr jn (.int .i64 (xi : Int)) (by rw [List.getElem?_map, List.getElem?_eq_getElem hlt, ← hxi, getD_lt _ _ _ hlt]; rfl)
          have e2 := World.block_lt_of_cell? _ _ e1
          have e3 := hkr.cell (p := ⟨lg, jn, none⟩) e2 (by show ¬ lg = g; omega)
          rw [e3]
          simpa using e1
        have ho : DevAt wr db nb mb n cap B k D left down := h3.keeps hkr (by omega) (by have := h.nlt; omega) (by omega)
        have hkey : keyOf Tryd.prog 3 (.int .i64 (xi : Int)) = some (.int .i64 (xi : Int)) := keyOf_int_mk Tryd.underlying3 (WalkArith.wf_i64 (by omega))
        have c0' := hcr.c0
        have c1 := ho.c1
        have hxt : (L.getD jn 0).toNat = xi := by omega
        have HS : Hid (crashB D [] L B (jn + 1) = put (crashB D [] L B jn) xi (wasOf D xi)) := by
          show crashB D [] L B (jn + 1) = _
          have e0 : ([] : List Bool).getD jn false = false := by simp
          simp only [crashB, e0]; rw [if_neg (by simp), hxt, hxi]
        clear hxi hxt
        go_wp2
        refine wp_region_still_tail 12 follows (by kernel_rfl) ?_
        simp only [List.take_succ_cons, List.take_zero, List.drop_succ_cons, List.drop_zero]
        change wpStill _ _ wr.drew (fun a' => wpList _ _ _ _ a' wr.drew) _ _
        iterate 10 still_step
        refine wpStill_lookup_sec rfl _ _ rfl mb k D rfl ho.drew.was xi rfl hkey ?_
        intro hwl
        still_step
        refine wpStill_nil ?_
        refine wpList_store_now hcr.drew hxn hwl rfl _ _ rfl _ rfl (by omega) rfl ?_
        intro w5 hc5 hk5
        go_wp2
        go_roundw
        case rel => exact ⟨jn + 1, by omega, by go_num, by rw [HS.out]; exact hc5, hkr.drew.trans hk5⟩
        case measure => simp [RowKit.intOf]; omega
      · go_wp2
        go_ret
        have : jn = L.length := by omega
        subst this
        exact ⟨L, db', g, mb', cap', hperm, hsort, rfl, by omega, hg, by omega, hcr, hw3.trans (hkr.below hw3.size (fun i e => by omega))⟩
end Go.Proofs.YtmdjjnjhjojimaaDoor
