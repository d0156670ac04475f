import Derived.Test.YteaacodloabdcaaGreatDoorCrashA
import Derived.Test.YteaacodloabdcaaGreatDoorBinA
import Derived.Test.YteaacodloabdcaaGreatDoorFailE
namespace Go.Proofs.YteaacodloabdcaaGreatDoor
open Go.RowKit Go.Maps

/-- New, the world left open. -/
theorem new_at (n : Nat) (w : World) (h1 : 64 ≤ n) (h2 : n ≤ 4096) :
    Calls Tryz.prog 79 #[.int .i64 n] w fun e w' => ∃ db nb mb, e = .returned (.pointer (some ⟨db, 0, none⟩)) ∧ w.heap.size ≤ db ∧ w.heap.size ≤ nb ∧ w.heap.size ≤ mb ∧ DevAt w' db nb mb n n (List.replicate (n * 64) 0) 0 (.map []) 0 false ∧ Below w.heap.size w w' := by
  refine (new_yes n w h1 h2).mono ?_
  rintro e w' ⟨rfl, rfl⟩
  exact ⟨_, _, _, rfl, by omega, Nat.le_refl _, by omega, new_dev n w h1 h2, (((Below.refl _ w).alloc (Nat.le_refl _) _).alloc (by simp) _).alloc (by simp; omega) _⟩

theorem read_at {w : World} {db nb mb n cap : Nat} {B : List UInt8} {k : Nat} {D : DataW Unit} {left : Int} {down : Bool} (h : DevAt w db nb mb n cap B k D left down) (i : Nat) (hi : i < n) :
    Calls Tryz.prog 164 #[.pointer (some ⟨db, 0, none⟩), .int .i64 i] w fun e w' => ∃ g c, e = .returned (.tuple #[.slice (some ⟨g, 0, none⟩) 64 c, .int .i64 0]) ∧ w.heap.size ≤ g ∧ g < w'.heap.size ∧ w'.rangeAt g 0 (bytesV (sec B i)) ∧ Below w.heap.size w w' := by
  refine (read_yes h i hi).mono ?_
  rintro e w' ⟨v, rfl, hrow, hne, hb⟩
  obtain ⟨hl, ⟨rfl, h0⟩ | ⟨g, cap, cur, rfl, hg, hblk, hnc, hcm, hcs, hcur⟩⟩ := hrow
  · exact absurd rfl hne
  · refine ⟨g, cap, rfl, hg, (Array.getElem?_eq_some_iff.1 hblk).1, ?_, hb⟩
    intro j v hv
    rw [cell_of_row _ _ (0 + j) cur 5 (0, 0) hblk]
    rw [← hcur, List.getElem?_take] at hv
    split at hv
    · simpa using hv
    · cases hv

theorem where_at (n : Int) (ws : List ByteArray) (v : Value) (w : World) (hc : Chain w n ws v) (hl : ws.length ≤ 1000000) :
    Calls Tryz.prog 171 #[v] w fun ev w' => ∃ a c, ev = .returned (.slice a ws.length c) ∧ w'.ownsRow w.heap.size 9 1 (.slice a ws.length c) ws.length (ws.map Value.string) ∧ Below w.heap.size w w' := by
  refine (where_chain n ws v w hc hl).mono ?_
  rintro e w' ⟨v', rfl, hrow, hb⟩
  have hrow' := hrow
  obtain ⟨hl', ⟨rfl, h0⟩ | ⟨g, cap, cur, rfl, _⟩⟩ := hrow
  · exact ⟨none, 0, by rw [h0], by rw [h0] at hrow' ⊢; exact hrow', hb⟩
  · exact ⟨some ⟨g, 0, none⟩, cap, rfl, hrow', hb⟩

/-- The bytes of begun's sector. -/
def bb : List UInt8 := List.replicate 3 0 ++ 7 :: List.replicate 60 0
def zb : Array Value := (bytesV (List.replicate 64 0)).toArray
theorem mk33 (w : World) : (Instr.makeSlice 67 (.int .i64 64) (.int .i64 64)).run Tryz.prog w = .ok (.slice (some ⟨w.heap.size, 0, none⟩) 64 64) (w.alloc (.cells zb 5)) := by kernel_rfl
theorem zb_set : zb.setIfInBounds 3 (.int .u8 7) = (bytesV bb).toArray := by kernel_rfl
theorem zb_size : zb.size = 64 := by kernel_rfl

/-- The map behind begun's Write. -/
def bD : DataW Unit := (DataW.map []).put (.int .i64 5) (.lit (.string (sec (List.replicate 4096 0) 5)))
theorem bD_keys : intKeys bD = [5] := by rfl
theorem bD_has : Maps.has (DataW.map [] : DataW Unit) (.int .i64 5) = false := by rfl
theorem bD_was : wasOf bD 5 = sec (List.replicate 4096 0) 5 := by rfl
theorem secZ : sec (List.replicate 4096 0) 5 = List.replicate 64 0 := by decide +kernel
theorem enc_all : encInt (-3) ++ encInt 300 = [1, 253, 2, 44, 1] := by decide +kernel
end Go.Proofs.YteaacodloabdcaaGreatDoor

namespace Go.Proofs.YteaacodloabdcaaGreatDoor
open Go.RowKit Go.Maps

def S8 : List UInt8 := [1, 253, 2, 44, 1, 1, 2, 104, 105]
def S9 : List UInt8 := [2, 44, 1, 1, 2, 104, 105]
def S10 : List UInt8 := [1, 2, 104, 105]
def hiB : ByteArray := ⟨#[104, 105]⟩
theorem s8_is : ([] : List UInt8) ++ [(-3 : Int), 300].flatMap encInt ++ (encInt (hiB.size : Int) ++ hiB.data.toList) = S8 := by decide +kernel
theorem rd1 : rdInt S8 0 = (-3, S9, 0) := by decide +kernel
theorem rd2 : rdInt S9 0 = (300, S10, 0) := by decide +kernel
theorem rd3 : rdText S10 0 5 = ([104, 105], [], 0) := by decide +kernel
theorem rd4 : rdEnd [] 0 = 0 := by decide +kernel

theorem rint1 {w : World} {rb : Nat} {a : Option Addr} {c : Nat} (h : RdAt w rb S8 a c 0) : Calls Tryz.prog 57 #[.pointer (some ⟨rb, 0, none⟩)] w fun e w' => ∃ a' c', e = .returned (.int .i64 (-3)) ∧ RdAt w' rb S9 a' c' 0 ∧ Keeps (fun i => i = rb) w w' := by
  have := rint_any h
  rw [rd1] at this
  exact this.mono (fun e w' ⟨a', c', x, y, z, _⟩ => ⟨a', c', x, y, z⟩)
theorem rint2 {w : World} {rb : Nat} {a : Option Addr} {c : Nat} (h : RdAt w rb S9 a c 0) : Calls Tryz.prog 57 #[.pointer (some ⟨rb, 0, none⟩)] w fun e w' => ∃ a' c', e = .returned (.int .i64 300) ∧ RdAt w' rb S10 a' c' 0 ∧ Keeps (fun i => i = rb) w w' := by
  have := rint_any h
  rw [rd2] at this
  exact this.mono (fun e w' ⟨a', c', x, y, z, _⟩ => ⟨a', c', x, y, z⟩)
theorem rtext3 {w : World} {rb : Nat} {a : Option Addr} {c : Nat} (h : RdAt w rb S10 a c 0) : Calls Tryz.prog 168 #[.pointer (some ⟨rb, 0, none⟩), .int .i64 5] w fun e w' => ∃ a' c', e = .returned (.string ⟨#[104, 105]⟩) ∧ RdAt w' rb [] a' c' 0 ∧ Keeps (fun i => i = rb) w w' := by
  have := rtext_any h 5
  rw [rd3] at this
  exact this
theorem rend4 {w : World} {rb : Nat} {a : Option Addr} {c : Nat} (h : RdAt w rb [] a c 0) : Calls Tryz.prog 169 #[.pointer (some ⟨rb, 0, none⟩)] w fun e w' => e = .returned (.int .i64 0) ∧ w' = w := by
  have := rend_any h
  rw [rd4] at this
  exact this

set_option maxRecDepth 100000 in
set_option maxHeartbeats 4000000 in
theorem begun_true (w : World) (hg : w.cell? ⟨0, 0, none⟩ = some errType) :
    Calls Tryz.prog 142 #[] w fun e w' => e = .returned (.bool true) ∧ Below w.heap.size w w' := by
  have hmk := mk33
  have hzs := zb_size
  go_enter Tryz.func142, Tryz.ntmps142
  go_wp2_with fail
  refine (new_at 64 w (by omega) (by omega)).mono ?_
  rintro e w1 ⟨db, nb, mb, rfl, l1, l2, l3, hd1, hb1⟩
  go_wp2_with fail
  clear hmk hzs
  have hdA := hd1.keeps ((Keeps.refl (fun _ => False) w1).alloc (.cells (zb.setIfInBounds 3 (.int .u8 7)) 5)) (fun e => e) (fun e => e) (fun e => e)
  have hrA : (w1.alloc (.cells (zb.setIfInBounds 3 (.int .u8 7)) 5)).rangeAt w1.heap.size 0 (bytesV bb) := by
    intro j v hv
    rw [cell_of_row _ _ (0 + j) _ 5 (0, 0) (heap_alloc_last w1 _), zb_set]
    simpa using hv
  have hbA : Below w.heap.size w (w1.alloc (.cells (zb.setIfInBounds 3 (.int .u8 7)) 5)) := hb1.alloc hb1.size _
  have hdl := hd1.dlt
  have hnl := hd1.nlt
  have hml := hd1.mlt
  have hszA : (w1.alloc (.cells (zb.setIfInBounds 3 (.int .u8 7)) 5)).heap.size = w1.heap.size + 1 := by simp
  generalize w1.alloc (.cells (zb.setIfInBounds 3 (.int .u8 7)) 5) = wA at hdA hrA hbA hszA ⊢
  refine (write_new hdA 5 (by omega) bb rfl w1.heap.size 0 64 hrA (by omega) (by decide) bD_has).mono ?_
  rintro e w2 ⟨rfl, hd2, hk2⟩
  have hd2 : DevAt w2 db nb mb 64 64 (put (List.replicate 4096 0) 5 bb) 1 bD 0 false := hd2
  have hb2 : Below w.heap.size w w2 := hbA.trans (hk2.below hbA.size (fun i e => by omega))
  have hr2 : w2.rangeAt w1.heap.size 0 (bytesV bb) := fun j v hv => (hk2.cell (p := ⟨w1.heap.size, 0 + j, none⟩) (by show w1.heap.size < _; omega) (by show ¬ (w1.heap.size = db ∨ w1.heap.size = nb ∨ w1.heap.size = mb); omega)).trans (hrA j v hv)
  have hs2 := hk2.size
  clear hdA hrA hk2
  go_wp2_with fail
  have hdB := hd2.keeps ((Keeps.refl (fun _ => False) w2).alloc (.cells #[.bool true] 4)) (fun e => e) (fun e => e) (fun e => e)
  have hkB : (w2.alloc (.cells #[.bool true] 4)).rangeAt w2.heap.size 0 ([true].map Value.bool) := by
    intro j v hv
    rw [cell_of_row _ _ (0 + j) _ 4 (0, 0) (heap_alloc_last w2 _)]
    simpa using hv
  have hbB : Below w.heap.size w (w2.alloc (.cells #[.bool true] 4)) := hb2.alloc hb2.size _
  have hrB : (w2.alloc (.cells #[.bool true] 4)).rangeAt w1.heap.size 0 (bytesV bb) := World.rangeAt_alloc hr2 _
  have hszB : (w2.alloc (.cells #[.bool true] 4)).heap.size = w2.heap.size + 1 := by simp
  generalize w2.alloc (.cells #[.bool true] 4) = wB at hdB hkB hbB hrB hszB ⊢
  refine (crash_keep hdB (by omega) w2.heap.size 0 1 1 [true] rfl hkB).mono ?_
  rintro e w3 ⟨L, dc, nc, mc, capc, hperm, _, rfl, m1, m2, m3, hdc, hb3⟩
  rw [bD_keys] at hperm
  obtain rfl := List.perm_singleton.1 hperm
  have hdc : DevAt w3 dc nc mc 64 capc (put (List.replicate 4096 0) 5 bb) 0 (.map []) 0 false := hdc
  have hd3 := hdB.keeps (Keeps.of_below (S := fun _ => False) hb3) (fun e => e) (fun e => e) (fun e => e)
  have hbw3 : Below w.heap.size w w3 := hbB.trans (hb3.mono hbB.size)
  have hr3 : w3.rangeAt w1.heap.size 0 (bytesV bb) := fun j v hv => (hb3.cell (p := ⟨w1.heap.size, 0 + j, none⟩) (by show w1.heap.size < _; omega)).trans (hrB j v hv)
  have hs3 := hb3.size
  clear hperm hdB hkB hbB hrB hb3 hd2 hr2 hb2
  go_wp2_with fail
  refine (crash_none hd3 (by omega) none 0).mono ?_
  rintro e w4 ⟨L, dx, nx, mx, capx, hperm, _, rfl, p1, p2, p3, hdx, hb4⟩
  rw [bD_keys] at hperm
  obtain rfl := List.perm_singleton.1 hperm
  have hdx : DevAt w4 dx nx mx 64 capx (put (put (List.replicate 4096 0) 5 bb) 5 (wasOf bD 5)) 0 (.map []) 0 false := hdx
  have hdc4 := hdc.keeps (Keeps.of_below (S := fun _ => False) hb4) (fun e => e) (fun e => e) (fun e => e)
  have hbw4 : Below w.heap.size w w4 := hbw3.trans (hb4.mono hbw3.size)
  have hr4 : w4.rangeAt w1.heap.size 0 (bytesV bb) := fun j v hv => (hb4.cell (p := ⟨w1.heap.size, 0 + j, none⟩) (by show w1.heap.size < _; omega)).trans (hr3 j v hv)
  have hs4 := hb4.size
  clear hperm hd3 hdc hbw3 hr3 hb4
  go_wp2_with fail
  refine (read_at hdc4 5 (by omega)).mono ?_
  rintro e w5 ⟨gr, cr, rfl, q1, q1', hrr, hb5⟩
  rw [show sec (put (List.replicate 4096 0) 5 bb) 5 = bb from sec_put_same (n := 64) (by simp) (by omega) rfl] at hrr
  have hdx5 := hdx.keeps (Keeps.of_below (S := fun _ => False) hb5) (fun e => e) (fun e => e) (fun e => e)
  have hbw5 : Below w.heap.size w w5 := hbw4.trans (hb5.mono hbw4.size)
  have hr5 : w5.rangeAt w1.heap.size 0 (bytesV bb) := fun j v hv => (hb5.cell (p := ⟨w1.heap.size, 0 + j, none⟩) (by show w1.heap.size < _; omega)).trans (hr4 j v hv)
  have hs5 := hb5.size
  clear hdc4 hdx hbw4 hr4 hb5
  go_wp2_with fail
  refine (read_at hdx5 5 (by omega)).mono ?_
  rintro e w6 ⟨gs, cs, rfl, q2, q2', hrs, hb6⟩
  rw [show sec (put (put (List.replicate 4096 0) 5 bb) 5 (wasOf bD 5)) 5 = List.replicate 64 0 from by
    rw [sec_put_same (n := 64) (put_length (n := 64) (by simp) (by omega) rfl) (by omega) (by rw [bD_was, secZ]; simp), bD_was, secZ]] at hrs
  have hbw6 : Below w.heap.size w w6 := hbw5.trans (hb6.mono hbw5.size)
  have hr6 : w6.rangeAt w1.heap.size 0 (bytesV bb) := fun j v hv => (hb6.cell (p := ⟨w1.heap.size, 0 + j, none⟩) (by show w1.heap.size < _; omega)).trans (hr5 j v hv)
  have hrr6 : w6.rangeAt gr 0 (bytesV bb) := fun j v hv => (hb6.cell (p := ⟨gr, 0 + j, none⟩) (by show gr < _; omega)).trans (hrr j v hv)
  have hs6 := hb6.size
  clear hdx5 hbw5 hr5 hb6 hrr
  go_wp2_with fail
  have hwC : WrAt ((w6.alloc (.cells #[.slice none 0 0] 69)).alloc (.cells #[.int .i64 (-3), .int .i64 300] 2)) w6.heap.size (w6.heap.size + 1) [] none 0 := by
    refine ⟨?_, ?_, World.ownsRow_nil _ _ _ _, by simp, by simp [Value.ownBlock]⟩
    · simp
    · simp
  have hnC : ((w6.alloc (.cells #[.slice none 0 0] 69)).alloc (.cells #[.int .i64 (-3), .int .i64 300] 2)).rangeAt (w6.heap.size + 1) 0 ([(-3 : Int), 300].map (Value.int .i64)) := by
    intro j v hv
    have hh := heap_alloc_last (w6.alloc (.cells #[.slice none 0 0] 69)) (.cells #[.int .i64 (-3), .int .i64 300] 2)
    rw [show (w6.alloc (.cells #[.slice none 0 0] 69)).heap.size = w6.heap.size + 1 from by simp] at hh
    rw [cell_of_row _ _ (0 + j) _ 2 (0, 0) hh]
    simpa using hv
  have hbC : Below w6.heap.size w6 ((w6.alloc (.cells #[.slice none 0 0] 69)).alloc (.cells #[.int .i64 (-3), .int .i64 300] 2)) := ((Below.refl _ _).alloc (Nat.le_refl _) _).alloc (by simp) _
  have hszC : ((w6.alloc (.cells #[.slice none 0 0] 69)).alloc (.cells #[.int .i64 (-3), .int .i64 300] 2)).heap.size = w6.heap.size + 1 + 1 := by simp
  generalize (w6.alloc (.cells #[.slice none 0 0] 69)).alloc (.cells #[.int .i64 (-3), .int .i64 300] 2) = wC at hwC hnC hbC hszC ⊢
  refine (int_any hwC (w6.heap.size + 1) 0 2 [-3, 300] hnC (by omega) (by simp [Value.ownBlock]) (by intro x hx; simp at hx; omega) (by simp)).mono ?_
  rintro e w7 ⟨a7, c7, rfl, hw7, hk7, _⟩
  have hb7 : Below w6.heap.size w6 w7 := hbC.trans (hk7.below hbC.size (fun i e => by rcases e with e | e; omega; simp [Value.ownBlock] at e))
  have hs7 := hk7.size
  clear hwC hnC hbC hk7
  go_wp2_with fail
  refine (text_any hw7 (by omega) hiB (by decide)).mono ?_
  rintro e w8 ⟨a8, c8, rfl, hw8, hk8⟩
  rw [s8_is] at hw8
  have hb8 : Below w6.heap.size w6 w8 := hb7.trans (hk8.below hb7.size (fun i e => by omega))
  have hs8 := hk8.size
  clear hw7 hb7 hk8
  go_wp2_with fail
  refine (wbytes_any hw8 (by decide)).mono ?_
  rintro e w9 ⟨hb9, ⟨_, x⟩ | ⟨g9, c9, rfl, r1, hr9, r3, r4⟩⟩
  · exact absurd x (by decide)
  have hbw9 : Below w6.heap.size w6 w9 := hb8.trans (hb9.mono hb8.size)
  have hs9 := hb9.size
  clear hw8 hb8 hb9
  go_wp2_with fail
  refine (newreader_some g9 0 c9 S8 w9 (by decide) hr9).mono ?_
  rintro e w10 ⟨rb, a10, c10, rfl, t1, hrd, hb10⟩
  have hbw10 : Below w6.heap.size w6 w10 := hbw9.trans (hb10.mono hbw9.size)
  have hs10 := hb10.size
  have hrl := hrd.lt
  clear hbw9 hb10 hr9
  go_wp2_with fail
  refine (at_errno ⟨#[98]⟩ 5 w10 (by decide)).mono ?_
  rintro e w11 ⟨rfl, rfl⟩
  go_wp2_with fail
  refine (at_place ⟨#[97]⟩ w10.heap.size _).mono ?_
  rintro e w12 ⟨rfl, rfl⟩
  have hbE : Below w10.heap.size w10 ((w10.alloc (.cells #[.string ⟨#[98]⟩, errno 5] 246)).alloc (.cells #[.string ⟨#[97]⟩, placeV w10.heap.size] 246)) := ((Below.refl _ _).alloc (Nat.le_refl _) _).alloc (by simp) _
  have e1 : ((w10.alloc (.cells #[.string ⟨#[98]⟩, errno 5] 246)).alloc (.cells #[.string ⟨#[97]⟩, placeV w10.heap.size] 246)).cell? ⟨w10.heap.size, 0, none⟩ = some (.string ⟨#[98]⟩) := by simp
  have e2 : ((w10.alloc (.cells #[.string ⟨#[98]⟩, errno 5] 246)).alloc (.cells #[.string ⟨#[97]⟩, placeV w10.heap.size] 246)).cell? ⟨w10.heap.size, 1, none⟩ = some (errno 5) := by simp
  have e3 : ((w10.alloc (.cells #[.string ⟨#[98]⟩, errno 5] 246)).alloc (.cells #[.string ⟨#[97]⟩, placeV w10.heap.size] 246)).cell? ⟨w10.heap.size + 1, 0, none⟩ = some (.string ⟨#[97]⟩) := by simp
  have e4 : ((w10.alloc (.cells #[.string ⟨#[98]⟩, errno 5] 246)).alloc (.cells #[.string ⟨#[97]⟩, placeV w10.heap.size] 246)).cell? ⟨w10.heap.size + 1, 1, none⟩ = some (placeV w10.heap.size) := by simp
  have hszE : ((w10.alloc (.cells #[.string ⟨#[98]⟩, errno 5] 246)).alloc (.cells #[.string ⟨#[97]⟩, placeV w10.heap.size] 246)).heap.size = w10.heap.size + 1 + 1 := by simp
  have hszF : (w10.alloc (.cells #[.string ⟨#[98]⟩, errno 5] 246)).heap.size = w10.heap.size + 1 := by simp
  rw [hszF]
  generalize (w10.alloc (.cells #[.string ⟨#[98]⟩, errno 5] 246)).alloc (.cells #[.string ⟨#[97]⟩, placeV w10.heap.size] 246) = wE at hbE e1 e2 e3 e4 hszE ⊢
  have hbwE : Below w6.heap.size w6 wE := hbw10.trans (hbE.mono hbw10.size)
  have hrdE : RdAt wE rb S8 a10 c10 0 := by
    refine { hrd with c0 := (hbE.cell (p := ⟨rb, 0, none⟩) hrl).trans hrd.c0, c1 := (hbE.cell (p := ⟨rb, 1, none⟩) hrl).trans hrd.c1, f := fun o => (hbE.frozen (p := ⟨rb, o, none⟩) hrl).trans (hrd.f o), sh := ?_ }
    rcases hrd.sh with ⟨_, x⟩ | ⟨g, o, x, y, z⟩
    · exact absurd x (by decide)
    · exact Or.inr ⟨g, o, x, y, fun j v hv => (hbE.cell (p := ⟨g, o + j, none⟩) (World.block_lt_of_cell? _ _ (z j v hv))).trans (z j v hv)⟩
  have hcb : (convert 67 9 (.slice (some ⟨w1.heap.size, 0, none⟩) 64 64)).run Tryz.prog wE = .ok (.string ⟨bb.toArray⟩) wE :=
    conv_bytes w1.heap.size 0 64 64 bb wE rfl (fun j v hv => (hbwE.cell (p := ⟨w1.heap.size, 0 + j, none⟩) (by show w1.heap.size < _; omega)).trans (hr6 j v hv))
  have hcr : (convert 67 9 (.slice (some ⟨gr, 0, none⟩) 64 cr)).run Tryz.prog wE = .ok (.string ⟨bb.toArray⟩) wE :=
    conv_bytes gr 0 64 cr bb wE rfl (fun j v hv => (hbwE.cell (p := ⟨gr, 0 + j, none⟩) (by show gr < _; omega)).trans (hrr6 j v hv))
  have hcs : wE.cell? ⟨gs, 3, none⟩ = some (.int .u8 0) := (hbwE.cell (p := ⟨gs, 3, none⟩) (by show gs < _; omega)).trans (by have := hrs 3 (.int .u8 0) rfl; simpa using this)
  have hbw : Below w.heap.size w wE := hbw6.trans (hbwE.mono hbw6.size)
  have hww := hbw.size
  have hw0 : 0 < w.heap.size := World.block_lt_of_cell? w _ hg
  clear hrd hbw10 hbE hr6 hrr6 hrs hbw6 hbwE hd1 hbA hb1 hd2
  go_wp2_with fail
  refine (rint1 hrdE).mono ?_
  rintro e w13 ⟨a13, c13, rfl, hrd13, hk13⟩
  clear hcb hcr hcs
  go_wp2_with fail
  refine (rint2 hrd13).mono ?_
  rintro e w14 ⟨a14, c14, rfl, hrd14, hk14⟩
  go_wp2_with fail
  refine (rtext3 hrd14).mono ?_
  rintro e w15 ⟨a15, c15, rfl, hrd15, hk15⟩
  go_wp2_with fail
  refine (rend4 hrd15).mono ?_
  rintro e w16 ⟨rfl, hw16⟩
  obtain rfl := hw16.symm
  have hk := (hk13.trans hk14).trans hk15
  have d1 : w15.cell? ⟨w10.heap.size, 0, none⟩ = some (.string ⟨#[98]⟩) := (hk.cell (p := ⟨w10.heap.size, 0, none⟩) (by show w10.heap.size < _; omega) (by show ¬ w10.heap.size = rb; omega)).trans e1
  have d2 : w15.cell? ⟨w10.heap.size, 1, none⟩ = some (errno 5) := (hk.cell (p := ⟨w10.heap.size, 1, none⟩) (by show w10.heap.size < _; omega) (by show ¬ w10.heap.size = rb; omega)).trans e2
  have d3 : w15.cell? ⟨w10.heap.size + 1, 0, none⟩ = some (.string ⟨#[97]⟩) := (hk.cell (p := ⟨w10.heap.size + 1, 0, none⟩) (by show w10.heap.size + 1 < _; omega) (by show ¬ w10.heap.size + 1 = rb; omega)).trans e3
  have d4 : w15.cell? ⟨w10.heap.size + 1, 1, none⟩ = some (placeV w10.heap.size) := (hk.cell (p := ⟨w10.heap.size + 1, 1, none⟩) (by show w10.heap.size + 1 < _; omega) (by show ¬ w10.heap.size + 1 = rb; omega)).trans e4
  have hch : Chain w15 5 [⟨#[97]⟩, ⟨#[98]⟩] (placeV (w10.heap.size + 1)) := ⟨_, _, rfl, d3, d4, _, _, rfl, d1, d2, rfl⟩
  have hg15 : w15.cell? ⟨0, 0, none⟩ = some errType := (hk.cell (p := ⟨0, 0, none⟩) (by show 0 < _; omega) (by show ¬ 0 = rb; omega)).trans ((hbw.cell (p := ⟨0, 0, none⟩) hw0).trans hg)
  have hbw15 : Below w.heap.size w w15 := hbw.trans (hk.below hww (fun i e => by omega))
  clear e1 e2 e3 e4 d1 d2 d3 d4 hk13 hk14 hk15 hrd13 hrd14 hrd15 hrdE hk hbw hg
  go_wp2_with fail
  refine (code_chain 5 [⟨#[97]⟩, ⟨#[98]⟩] 244 _ w15 hch hg15).mono ?_
  rintro e w17 ⟨rfl, hb17⟩
  have hch17 : Chain w17 5 [⟨#[97]⟩, ⟨#[98]⟩] (placeV (w10.heap.size + 1)) := Chain.keeps (Keeps.of_below (S := fun _ => False) hb17) (fun _ _ e => e) hch
  have hbw17 : Below w.heap.size w w17 := hbw15.trans (hb17.mono hbw15.size)
  clear hch hg15 hbw15 hb17
  go_wp2_with fail
  refine (where_at 5 [⟨#[97]⟩, ⟨#[98]⟩] _ w17 hch17 (by decide)).mono ?_
  rintro e w18 ⟨a18, c18, rfl, _, hb18⟩
  have hch18 : Chain w18 5 [⟨#[97]⟩, ⟨#[98]⟩] (placeV (w10.heap.size + 1)) := Chain.keeps (Keeps.of_below (S := fun _ => False) hb18) (fun _ _ e => e) hch17
  have hbw18 : Below w.heap.size w w18 := hbw17.trans (hb18.mono hbw17.size)
  clear hch17 hbw17 hb18
  go_wp2_with fail
  refine (fis_chain 5 5 [⟨#[97]⟩, ⟨#[98]⟩] 244 _ w18 hch18 (by decide)).mono ?_
  rintro e w19 ⟨rfl, hb19⟩
  have hbw19 : Below w.heap.size w w19 := hbw18.trans (hb19.mono hbw18.size)
  clear hch18 hbw18 hb19
  go_wp2
  go_ret
  exact ⟨rfl, hbw19⟩
end Go.Proofs.YteaacodloabdcaaGreatDoor
