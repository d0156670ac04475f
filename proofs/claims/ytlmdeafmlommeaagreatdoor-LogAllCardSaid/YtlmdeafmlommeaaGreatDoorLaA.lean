import Derived.Test.YtlmdeafmlommeaaGreatDoorLgV
import Derived.Test.YtlmdeafmlommeaaGreatDoorBgD
namespace Go.Proofs.YtlmdeafmlommeaaGreatDoor
open Go.RowKit Go.Maps

/-- The steps that an argument reads. -/
def OpsAt (w : World) (a : Option Addr) (m : Nat) : Prop := ∀ j, j < m → ∃ (b o : Nat) (kd i : Int) (x : UInt8) (ka : Option Addr) (kl kc : Nat) (K : List Bool), a = some ⟨b, o, none⟩ ∧ b < w.heap.size ∧ (-9223372036854775808 ≤ i ∧ i ≤ 9223372036854775807) ∧
  w.cell? ⟨b, o + j * 4, none⟩ = some (.int .i64 kd) ∧ w.cell? ⟨b, o + j * 4 + 1, none⟩ = some (.int .i64 i) ∧ w.cell? ⟨b, o + j * 4 + 2, none⟩ = some (.int .u8 x.toNat) ∧ w.cell? ⟨b, o + j * 4 + 3, none⟩ = some (.slice ka kl kc) ∧ KeepB w w.heap.size ka kl K
section
variable {base n : Nat} {E : Nat → Prop} {w w0 wr w' : World} {db nb mb cap k lb sb : Nat} {B : List UInt8} {left : Int} {down : Bool} {v : Value} {a : Nat} {RL RV : List (List UInt8)} {x y : Int}
theorem CutU.area (h : CutU base n E w w0 wr db nb mb cap k lb sb B left down v a RL RV x y) : Calls Tryz.prog 23 #[.pointer (some ⟨lb, 0, none⟩)] wr fun e w' => e = .returned (.tuple #[.int .i64 x, .int .i64 y]) ∧ CutU base n E w w0 w' db nb mb cap k lb sb B left down v a RL RV x y :=
  (area_at h.l h.d a (encR RL).length x y h.log.tl h.log.al h.log.sz).mono fun _ _ q => ⟨q.1, h.keep q.2⟩
theorem CutU.room (h : CutU base n E w w0 wr db nb mb cap k lb sb B left down v a RL RV x y) {rn : Nat} {ue : Int} (hrn : ringN n = rn) (hue : ue = ((encR RL).length : Int)) : Calls Tryz.prog 25 #[.pointer (some ⟨lb, 0, none⟩)] wr fun e w' => e = .returned (.int .i64 ((rn : Int) - ue)) ∧ CutU base n E w w0 w' db nb mb cap k lb sb B left down v a RL RV x y := by
  have hz := h.log.sz
  refine (room_at h.l h.d a (encR RL).length x y h.log.tl h.log.al hz).mono fun e w' q => ⟨?_, h.keep q.2⟩
  rw [q.1, hue, ← hrn]
  congr 2
  omega
/-- Power goes, and comes again. -/
theorem CutD.crash {T : List (List UInt8) → Int → Int → Prop} (h : CutD base n E w w0 wr db nb cap v RV T) {ka : Option Addr} {kl : Nat} (kc : Nat) {K : List Bool} (hK : KeepB w base ka kl K) :
    Calls Tryz.prog 21 #[.pointer (some ⟨db, 0, none⟩), .slice ka kl kc] wr fun e w' => ∃ db' nb' mb' cap' B' a' R' x' y', e = .returned (.pointer (some ⟨db', 0, none⟩)) ∧ T R' x' y' ∧ LogOn n B' a' R' x' y' ∧ DevAt w' db' nb' mb' n cap' B' 0 (.map []) 0 false ∧ wr.heap.size ≤ db' ∧ wr.heap.size ≤ nb' ∧ wr.heap.size ≤ mb' ∧ Below wr.heap.size wr w' := by
  obtain ⟨mb, k, B, D, left, down, h1, h2, h3, h4, h5, h6, h7⟩ := h
  refine (crash_l h1 (by omega) kc (hK.below h4)).mono ?_
  rintro e w7 ⟨L, db7, nb7, mb7, cap7, hLp, _, rfl, z1, z2, z3, hd7, hb7⟩
  obtain ⟨a', R', x', y', q1, q2⟩ := h7 K L hLp
  exact ⟨db7, nb7, mb7, cap7, _, a', R', x', y', rfl, q2, q1, hd7, z1, z2, z3, hb7⟩
/-- .. and the log is opened. -/
theorem CutD.opens {T : List (List UInt8) → Int → Int → Prop} (h : CutD base n E w w0 wr db nb cap v RV T) (hb : Below wr.heap.size wr w') {db' nb' mb' cap' : Nat} {B' : List UInt8} {a' : Nat} {R' : List (List UInt8)} {x' y' : Int} (hl : LogOn n B' a' R' x' y') (hd : DevAt w' db' nb' mb' n cap' B' 0 (.map []) 0 false) (z1 : wr.heap.size ≤ db') (z2 : wr.heap.size ≤ nb') (z3 : wr.heap.size ≤ mb') :
    Calls Tryz.prog 22 #[.pointer (some ⟨db', 0, none⟩)] w' fun e w'' => ∃ lb' sb' rp rc, e = .returned (.tuple #[.pointer (some ⟨lb', 0, none⟩), .slice rp R'.length rc, .int .i64 0]) ∧ CutU base n E w w0 w'' db' nb' mb' cap' 0 lb' sb' B' 0 false (.slice rp R'.length rc) a' R' R' x' y' ∧ Below wr.heap.size wr w'' := by
  have hs := hb.size
  have q1 := hd.dlt
  have q2 := hd.nlt
  have q3 := hd.mlt
  refine (wopen_at hd hl).mono ?_
  rintro e w8 ⟨lb8, sb8, rv, U, rfl, y1, y2, y3, hL8, hS8, hR8, hU8, hb8⟩
  obtain ⟨rp, rc, rfl⟩ := hR8.shape
  obtain ⟨mb, k, B, D, left, down, h1, h2, h3, h4, h5, h6, h7⟩ := h
  have hK8 := Keeps.of_below (S := fun _ => False) hb8
  have hs8 := hb8.size
  have hbb : Below wr.heap.size wr w8 := hb.trans (hb8.mono hs)
  refine ⟨lb8, sb8, rp, rc, rfl, ⟨hd.keeps hK8 (fun e => e) (fun e => e) (fun e => e), hL8, hS8, ⟨by omega, by omega, by omega⟩, ⟨by omega, by omega, by omega, y3⟩, by omega, hl, ⟨U, hR8, fun i hi => ?_⟩, h4.trans (hbb.mono h5), by omega, fun i hi => ?_⟩, hbb⟩
  · obtain ⟨u1, u2, u3, u4⟩ := hU8 i hi
    refine ⟨by omega, u2, fun e => ?_⟩
    rcases e with e | e
    · unfold five at e; omega
    · have := (h6 i e).1; omega
  · obtain ⟨p1, p2⟩ := h6 i hi
    exact ⟨fun e => by unfold five at e; omega, by omega, (hbb.block i p1).trans p2⟩
end
/-- The loop's. -/
def LaI (n : Nat) (w wr : World) (s6 s7 s10 : Value) (u : Nat) (ar : Int) (i : Nat) : Prop :=
  ∃ db nb mb cap k lb sb B left down a R y, s6 = .pointer (some ⟨db, 0, none⟩) ∧ s7 = .pointer (some ⟨lb, 0, none⟩) ∧ CutU w.heap.size n (fun _ => False) w wr wr db nb mb cap k lb sb B left down s10 a R R ar y ∧ (encR R).length = u ∧ (y = ar + 1 ∨ y = 0) ∧ (-1000000 ≤ ar ∧ ar ≤ 1000000) ∧ k ≤ i + 5 ∧ R.length ≤ i
/-- The device behind a crash, its log opened; the lists that are held against it. -/
def LaC (n : Nat) (E : Nat → Prop) (w w0 wr : World) (db lb : Nat) (rs V Vm : Value) (R' R Rm : List (List UInt8)) (x y : Int) : Prop :=
  ∃ nb mb cap sb B a, CutU w.heap.size n E w w0 wr db nb mb cap 0 lb sb B 0 false rs a R' R' x y ∧ ListU w.heap.size wr E V R ∧ ListU w.heap.size wr E Vm Rm
theorem LaC.same {n : Nat} {E : Nat → Prop} {w w0 wr w' : World} {db lb : Nat} {rs V Vm : Value} {R' R Rm : List (List UInt8)} {x y : Int} (h : LaC n E w w0 wr db lb rs V Vm R' R Rm x y) (hs : Same wr w') : LaC n E w w0 w' db lb rs V Vm R' R Rm x y := by
  obtain ⟨nb, mb, cap, sb, B, a, h1, h2, h3⟩ := h
  have hb : Below wr.heap.size wr w' := (hs.keeps (fun _ => False)).below (Nat.le_refl _) (fun _ e => e.elim)
  exact ⟨nb, mb, cap, sb, B, a, h1.keep hb, h2.below hb, h3.below hb⟩
theorem LaC.rec1 {n : Nat} {E : Nat → Prop} {w w0 wr : World} {db lb : Nat} {rs V Vm : Value} {R' R Rm : List (List UInt8)} {x y : Int} (h : LaC n E w w0 wr db lb rs V Vm R' R Rm x y) (hl : R'.length ≤ 1000000) (bv : Bool) (hv : decide (R' = R) = bv) : Calls Tryz.prog 24 #[rs, V] wr fun e w' => e = .returned (.bool bv) ∧ Hid (LaC n E w w0 w' db lb rs V Vm R' R Rm x y) := by
  have h' := h
  obtain ⟨nb, mb, cap, sb, B, a, h1, ⟨U2, h2, _⟩, h3⟩ := h'
  obtain ⟨U1, h1', _⟩ := h1.rcs
  exact (records_at h1' h2 hl).mono fun e w' q => ⟨by rw [q.1, hv], h.same q.2⟩
theorem LaC.rec2 {n : Nat} {E : Nat → Prop} {w w0 wr : World} {db lb : Nat} {rs V Vm : Value} {R' R Rm : List (List UInt8)} {x y : Int} (h : LaC n E w w0 wr db lb rs V Vm R' R Rm x y) (hl : R'.length ≤ 1000000) (hv : R' = Rm) : Calls Tryz.prog 24 #[rs, Vm] wr fun e w' => e = .returned (.bool true) ∧ Hid (LaC n E w w0 w' db lb rs V Vm R' R Rm x y) := by
  have h' := h
  obtain ⟨nb, mb, cap, sb, B, a, h1, h2, ⟨U3, h3, _⟩⟩ := h'
  obtain ⟨U1, h1', _⟩ := h1.rcs
  exact (records_at h1' h3 hl).mono fun e w' q => ⟨by rw [q.1, decide_eq_true hv], h.same q.2⟩
/-- What the loop's end asks. -/
theorem CutU.fin {n i : Nat} {E : Nat → Prop} {w w0 wx : World} {db nb mb cap k lb sb : Nat} {B : List UInt8} {left : Int} {down : Bool} {v : Value} {a : Nat} {R : List (List UInt8)} {ar y : Int} (h : CutU w.heap.size n E w w0 wx db nb mb cap k lb sb B left down v a R R ar y) {rn u' : Nat} {ue : Int} (hrn : ringN n = rn) (hue : ue = (u' : Int)) (hu : (encR R).length = u') (hy : y = ar + 1 ∨ y = 0) (har : -1000000 ≤ ar ∧ ar ≤ 1000000) (hk : k ≤ i + 6) (hR : R.length ≤ i + 1) :
    Calls Tryz.prog 23 #[.pointer (some ⟨lb, 0, none⟩)] wx fun e w' => e = .returned (.tuple #[.int .i64 ar, .int .i64 y]) ∧ Hid (Calls Tryz.prog 25 #[.pointer (some ⟨lb, 0, none⟩)] w' fun e w'' => e = .returned (.int .i64 ((rn : Int) - ue)) ∧ Hid (LaI n w w'' (.pointer (some ⟨db, 0, none⟩)) (.pointer (some ⟨lb, 0, none⟩)) v u' ar (i + 1))) := by
  refine h.area.mono fun e w' q => ⟨q.1, ?_⟩
  refine (q.2.room hrn (by rw [hue, hu])).mono fun e2 w2 q2 => ⟨q2.1, ?_⟩
  exact ⟨db, nb, mb, cap, k, lb, sb, B, left, down, a, R, y, rfl, rfl, q2.2.noE, hu, hy, har, by omega, hR⟩
/-- Crash, Open, Area. -/
theorem CutD.chain {n : Nat} {E : Nat → Prop} {w w0 wx : World} {db nb cap : Nat} {V Vm : Value} {R Rm : List (List UInt8)} {T : List (List UInt8) → Int → Int → Prop} (h : CutD w.heap.size n E w w0 wx db nb cap V R T) (hM : ListU w.heap.size wx E Vm Rm) {ka : Option Addr} {kl : Nat} (kc : Nat) {K : List Bool} (hK : KeepB w w.heap.size ka kl K) :
    Calls Tryz.prog 21 #[.pointer (some ⟨db, 0, none⟩), .slice ka kl kc] wx fun e w1 => ∃ db' R' x' y', e = .returned (.pointer (some ⟨db', 0, none⟩)) ∧ Hid (T R' x' y') ∧ Hid (Calls Tryz.prog 22 #[.pointer (some ⟨db', 0, none⟩)] w1 fun e w2 => ∃ lb' rp rc, e = .returned (.tuple #[.pointer (some ⟨lb', 0, none⟩), .slice rp R'.length rc, .int .i64 0]) ∧ Hid (Calls Tryz.prog 23 #[.pointer (some ⟨lb', 0, none⟩)] w2 fun e w3 => e = .returned (.tuple #[.int .i64 x', .int .i64 y']) ∧ Hid (LaC n E w w0 w3 db' lb' (.slice rp R'.length rc) V Vm R' R Rm x' y'))) := by
  have hV : ListU w.heap.size wx E V R := by
    obtain ⟨_, _, _, _, _, _, _, _, h3, _⟩ := h
    exact h3
  refine (h.crash kc hK).mono ?_
  rintro e w1 ⟨db', nb', mb', cap', B', a', R', x', y', rfl, q1, q2, q3, z1, z2, z3, hb1⟩
  refine ⟨db', R', x', y', rfl, q1, ?_⟩
  show Calls _ _ _ _ _
  refine (h.opens hb1 q2 q3 z1 z2 z3).mono ?_
  rintro e w2 ⟨lb', sb', rp, rc, rfl, hU, hb2⟩
  refine ⟨lb', rp, rc, rfl, ?_⟩
  show Calls _ _ _ _ _
  have hV2 := hV.below hb2
  have hM2 := hM.below hb2
  refine (area_at hU.l hU.d a' (encR R').length x' y' hU.log.tl hU.log.al hU.log.sz).mono ?_
  rintro e w3 ⟨rfl, hb3⟩
  exact ⟨rfl, nb', mb', cap', sb', B', a', hU.keep hb3, hV2.below hb3, hM2.below hb3⟩
theorem CutD.cell {n : Nat} {E : Nat → Prop} {w w0 wx : World} {db nb cap : Nat} {V : Value} {R : List (List UInt8)} {T : List (List UInt8) → Int → Int → Prop} (h : CutD w.heap.size n E w w0 wx db nb cap V R T) {b o : Nat} (hE : E b) : wx.cell? ⟨b, o, none⟩ = w0.cell? ⟨b, o, none⟩ := by
  obtain ⟨_, _, _, _, _, _, _, _, _, _, _, h6, _⟩ := h
  exact World.cell?_of_block (w := w0) (w' := wx) (a := ⟨b, o, none⟩) (h6 b hE).2
set_option maxRecDepth 100000 in
set_option maxHeartbeats 16000000 in
theorem logAll_true (n0 : Int) (oa : Option Addr) (om oc : Nat) (w : World) (hO : OpsAt w oa om) (hg : w.cell? ⟨0, 0, none⟩ = some errType) :
    Calls Tryz.prog 3 #[.int .i64 n0, .slice oa om oc] w fun e w' => e = .returned (.bool true) ∧ Below w.heap.size w w' := by
  have hr0 := rem_any n0 100 (by omega)
  go_enter Tryz.func3, Tryz.ntmps3
  go_wp2_with fail
  refine (begun4_true _ hg).mono ?_
  rintro e w1 ⟨rfl, hb1⟩
  clear hg
  have hs1 := hb1.size
  go_wp2_with fail
  obtain ⟨n, hn, hn1, hn2⟩ : ∃ n : Nat, 64 + n0.tmod 100 % 100 = (n : Int) ∧ 64 ≤ n ∧ n ≤ 163 := ⟨(64 + n0.tmod 100 % 100).toNat, by omega, by omega, by omega⟩
  rw [hn]
  clear hn hr0
  refine (new_at n w1 (by omega) (by omega)).mono ?_
  rintro e w2 ⟨db, nb, mb, rfl, l1, l2, l3, hd2, hb2⟩
  have hs2 := hb2.size
  have hbw2 : Below w.heap.size w w2 := hb1.trans (hb2.mono hs1)
  clear hb1 hb2
  go_wp2_with fail
  refine (wmake_seat (base := w.heap.size) hd2 (by omega) (by omega) ⟨by omega, by omega, by omega, by omega⟩).mono ?_
  rintro e w3 ⟨mb3, k3, B3, lb, sb, rfl, hS3, hk3, hlog3, hK3⟩
  have hs3 := hK3.size
  have hbw3 : Below w.heap.size w w3 := hbw2.trans (hK3.below (by omega) (fun i e => by omega))
  obtain ⟨rn, hrn⟩ : ∃ rn, ringN n = rn := ⟨_, rfl⟩
  have hrI : 64 * ((n : Int) / 2 - 2) = (rn : Int) := by rw [← hrn]; unfold ringN; omega
  have hr1 : 1920 ≤ rn ∧ rn ≤ 5120 := by rw [← hrn]; unfold ringN; omega
  have HRI : Hid (64 * ((n : Int) / 2 - 2) = (rn : Int)) := hrI
  have HRn : Hid (ringN n = rn) := hrn
  have hI0 : Hid (LaI n w w3 (.pointer (some ⟨db, 0, none⟩)) (.pointer (some ⟨lb, 0, none⟩)) (.slice none 0 0) 0 0 0) :=
    ⟨db, nb, mb3, n, k3, lb, sb, B3, 0, false, 0, [], 0, rfl, rfl, CutU.start hS3 hlog3 hbw3 hbw3.size (fun _ e => e.elim), by rw [encR_nil]; rfl, Or.inr rfl, by omega, by omega, Nat.le_refl _⟩
  have HO : Hid (OpsAt w oa om) := hO
  clear hK3 hbw2 hd2 hS3 hlog3 hbw3 hO hrn hrI
  go_wp2_with fail
  rw [HRI.out]
  go_loopw [6, 7, 10, 11, 12, 13] (fun s6 s7 s10 s11 s12 s13 wr => ∃ (i u : Nat) (ar : Int), i ≤ 30 ∧ s13 = .int .i64 i ∧ s12 = .int .i64 u ∧ s11 = .int .i64 ar ∧ Hid (LaI n w wr s6 s7 s10 u ar i)) (fun _ _ _ _ _ s13 _ => 30 - (RowKit.intOf s13).toNat)
  case atStart => exact ⟨0, 0, 0, by omega, rfl, rfl, rfl, hI0⟩
  case round => as_aux_lemma =>
    obtain ⟨i, u, ar, hi, rfl, rfl, rfl, HI⟩ := hrel
    clear hI0
    by_cases hcond : i < 30 ∧ i < om
    · obtain ⟨hi30, hin⟩ := hcond
      obtain ⟨db, nb, mb, cap, k, lb, sb, B, left, down, a, R, y, rfl, rfl, hS, hu, hy, har, hk, hRl⟩ := HI.out
      obtain ⟨ob0, oo, kd, N, x, ka, kl, kc, K, rfl, hbl, hNb, e0, e1, e2, e3, hK⟩ := HO.out i hin
      have d0 := (hS.bel.cell (p := ⟨ob0, oo + i * 4, none⟩) hbl).trans e0
      have d1 := (hS.bel.cell (p := ⟨ob0, oo + i * 4 + 1, none⟩) hbl).trans e1
      have d2 := (hS.bel.cell (p := ⟨ob0, oo + i * 4 + 2, none⟩) hbl).trans e2
      have d3 := (hS.bel.cell (p := ⟨ob0, oo + i * 4 + 3, none⟩) hbl).trans e3
      have hbA : Below wr.heap.size wr (wr.alloc (.cells #[.int .i64 kd, .int .i64 N, .int .u8 x.toNat, .slice ka kl kc] 33)) := (Below.refl _ _).alloc (Nat.le_refl _) _
      have hoA : wr.heap.size < (wr.alloc (.cells #[.int .i64 kd, .int .i64 N, .int .u8 x.toNat, .slice ka kl kc] 33)).heap.size := by simp
      have v0 : (wr.alloc (.cells #[.int .i64 kd, .int .i64 N, .int .u8 x.toNat, .slice ka kl kc] 33)).cell? ⟨wr.heap.size, 0, none⟩ = some (.int .i64 kd) := by rw [World.cell?_alloc_at _ _ _ _ (by simp)]; rfl
      have v1 : (wr.alloc (.cells #[.int .i64 kd, .int .i64 N, .int .u8 x.toNat, .slice ka kl kc] 33)).cell? ⟨wr.heap.size, 1, none⟩ = some (.int .i64 N) := by rw [World.cell?_alloc_at _ _ _ _ (by simp)]; rfl
      have v2 : (wr.alloc (.cells #[.int .i64 kd, .int .i64 N, .int .u8 x.toNat, .slice ka kl kc] 33)).cell? ⟨wr.heap.size, 2, none⟩ = some (.int .u8 x.toNat) := by rw [World.cell?_alloc_at _ _ _ _ (by simp)]; rfl
      have v3 : (wr.alloc (.cells #[.int .i64 kd, .int .i64 N, .int .u8 x.toNat, .slice ka kl kc] 33)).cell? ⟨wr.heap.size, 3, none⟩ = some (.slice ka kl kc) := by rw [World.cell?_alloc_at _ _ _ _ (by simp)]; rfl
      have HS : Hid (CutU w.heap.size n (fun i => i = wr.heap.size) w (wr.alloc (.cells #[.int .i64 kd, .int .i64 N, .int .u8 x.toNat, .slice ka kl kc] 33)) (wr.alloc (.cells #[.int .i64 kd, .int .i64 N, .int .u8 x.toNat, .slice ka kl kc] 33)) db nb mb cap k lb sb B left down u10 a R R ar y ∧ (encR R).length = u ∧ (y = ar + 1 ∨ y = 0)) := ⟨hS.withE hbA (fun i e => by omega), hu, hy⟩
      have hul : u ≤ rn := by rw [← hu, ← HRn.out]; exact hS.log.sz
      have HK : Hid (KeepB w w.heap.size ka kl K) := hK
      clear HI hS hu hy e0 e1 e2 e3 hK hbA
      by_cases hk0 : kd = 0
      · subst hk0
        have hN300 := rem_any N 300 (by omega)
        go_wp2_with fail
        clear d0 d1 d2 d3
        generalize wr.alloc (.cells #[.int .i64 0, .int .i64 N, .int .u8 x.toNat, .slice ka kl kc] 33) = wA at HS v0 v1 v2 v3 hoA ⊢
        obtain ⟨m, hm, hm2⟩ : ∃ m : Nat, N.tmod 300 % 300 = (m : Int) ∧ m ≤ 299 := ⟨(N.tmod 300 % 300).toNat, by omega, by omega⟩
        rw [hm]
        clear hm hN300
        refine (text_at m x _ rfl (by omega) _).mono ?_
        rintro e w4 ⟨g, rfl, hg4, hB4, hb4⟩
        have hsl : (textB m x).length = m := textB_len _ _
        generalize textB m x = s at hB4 hsl
        have HSl : Hid (s.length = m) := hsl
        have hN4 := HS.out.1.newRec hg4 hB4 hsl (Nat.le_refl _)
        have HS4 : Hid (CutU w.heap.size n (fun i => i = wr.heap.size) w wA w4 db nb mb cap k lb sb B left down u10 a R R ar y ∧ (encR R).length = u ∧ (y = ar + 1 ∨ y = 0) ∧ RecN w.heap.size w4 (fun i => five db nb mb sb lb i ∨ i = wr.heap.size) (.slice (some ⟨g, 0, none⟩) m m) s) := ⟨HS.out.1.keep hb4, HS.out.2.1, HS.out.2.2, hN4⟩
        clear HS hB4 hb4 hN4 hsl v0 v1 v2
        by_cases hm0 : m = 0
        · subst hm0
          go_wp2_with fail
          refine (append_form HS4.out.1.l _ _ _ (Or.inl (by omega))).mono ?_
          rintro e w5 ⟨rfl, hw5⟩
          replace hw5 := hw5.symm
          subst hw5
          have HF : Hid (Calls Tryz.prog 23 #[.pointer (some ⟨lb, 0, none⟩)] _ _) := HS4.out.1.fin (i := i) (ue := (u : Int)) HRn.out rfl HS4.out.2.1 HS4.out.2.2.1 har (by omega) (by omega)
          clear HS4
          go_wp2_with fail
          refine HF.out.mono ?_
          rintro e wf ⟨rfl, HF2⟩
          clear HF
          go_wp2_with fail
          refine HF2.out.mono ?_
          rintro e wg ⟨rfl, HN⟩
          clear HF2
          go_wp2_with fail
          exact ⟨⟨i + 1, u, ar, by omega, by go_num, rfl, rfl, HN⟩, by simp [RowKit.intOf]; omega⟩
        · have hm1 : 1 ≤ m := by omega
          clear hm0
          by_cases hfu : rn < u + (m + 2)
          · have hr' : (rn : Int) < (u : Int) + ((m : Int) + 2) := by omega
            go_wp2_with fail
            refine (append_full HS4.out.1.l HS4.out.1.d a (encR R).length ar y HS4.out.1.log.tl HS4.out.1.log.al HS4.out.1.log.sz _ m m ⟨hm1, by omega⟩ (by rw [HRn.out, HS4.out.2.1]; exact hfu)).mono ?_
            rintro e w5 ⟨rfl, hb5⟩
            have HF : Hid (Calls Tryz.prog 23 #[.pointer (some ⟨lb, 0, none⟩)] _ _) := (HS4.out.1.keep hb5).fin (i := i) (ue := (u : Int)) HRn.out rfl HS4.out.2.1 HS4.out.2.2.1 har (by omega) (by omega)
            clear HS4 hb5
            go_wp2_with fail
            refine HF.out.mono ?_
            rintro e wf ⟨rfl, HF2⟩
            clear HF
            go_wp2_with fail
            refine HF2.out.mono ?_
            rintro e wg ⟨rfl, HN⟩
            clear HF2
            go_wp2_with fail
            exact ⟨⟨i + 1, u, ar, by omega, by go_num, rfl, rfl, HN⟩, by simp [RowKit.intOf]; omega⟩
          · have hr' : (u : Int) + ((m : Int) + 2) ≤ (rn : Int) := by omega
            have HAp : Hid (Calls Tryz.prog 18 #[.pointer (some ⟨lb, 0, none⟩), .slice (some ⟨g, 0, none⟩) m m] w4 fun e w' => (e = .returned (.int .i64 0) ∧ ∃ mb' k' B' left' down', k' ≤ 1 ∧ CutU w.heap.size n (fun i => i = wr.heap.size) w wA w' db nb mb' cap k' lb sb B' left' down' u10 a (R ++ [s]) R ar y ∧ RecN w.heap.size w' (fun i => five db nb mb' sb lb i ∨ i = wr.heap.size) (.slice (some ⟨g, 0, none⟩) m m) s) ∨ (e = .returned (.int .i64 9) ∧ CutD w.heap.size n (fun i => i = wr.heap.size) w wA w' db nb cap u10 R (fun R' x' y' => (R' = R ∨ R' = R ++ [s]) ∧ x' = ar ∧ y' = y) ∧ RecN w.heap.size w' (fun i => i = wr.heap.size) (.slice (some ⟨g, 0, none⟩) m m) s)) := HS4.out.1.append_two (by omega) HS4.out.2.2.2 HSl.out hm1 (by omega) (by rw [HRn.out, HS4.out.2.1]; omega)
            have HU : Hid ((encR R).length = u ∧ (y = ar + 1 ∨ y = 0)) := ⟨HS4.out.2.1, HS4.out.2.2.1⟩
            clear HS4
            have hcl : R.length ≤ 1000 := by omega
            go_wp2_with fail
            refine HAp.out.mono ?_
            rintro e w5 h5
            clear HAp
            rcases h5 with ⟨rfl, mb5, k5, B5, left5, down5, hk5, hS5, hv5⟩ | ⟨rfl, hD5, hv5⟩
            · as_aux_lemma =>
              have HS5 : Hid (CutU w.heap.size n (fun i => i = wr.heap.size) w wA w5 db nb mb5 cap k5 lb sb B5 left5 down5 u10 a (R ++ [s]) R ar y ∧ RecN w.heap.size w5 (fun i => five db nb mb5 sb lb i ∨ i = wr.heap.size) (.slice (some ⟨g, 0, none⟩) m m) s) := ⟨hS5, hv5⟩
              clear hS5 hv5 v3
              go_wp2_with (at_builtin; refine wpList_append_copyU rfl _ _ rfl w.heap.size _ rfl _ R rfl HS5.out.1.rcs HS5.out.1.sz HS5.out.1.ltP (by omega) ?_)
              intro v6 w6 hl6 ho6 hk6
              have hs6 := hk6.size
              have hb6 : Below w5.heap.size w5 w6 := hk6.below (Nat.le_refl _) (fun _ e => e.elim)
              have hbx : Below w5.heap.size w5 (w6.alloc (.cells #[.slice (some ⟨g, 0, none⟩) m m] 34)) := hb6.alloc hs6 _
              have HX : Hid (ListU w.heap.size (w6.alloc (.cells #[.slice (some ⟨g, 0, none⟩) m m] 34)) (fun i => five db nb mb5 sb lb i ∨ i = wr.heap.size) v6 R ∧ RecN w.heap.size (w6.alloc (.cells #[.slice (some ⟨g, 0, none⟩) m m] 34)) (fun i => five db nb mb5 sb lb i ∨ i = wr.heap.size) (.slice (some ⟨g, 0, none⟩) m m) s) :=
                ⟨hl6.below ((Below.refl _ _).alloc (Nat.le_refl _) _), HS5.out.2.keep (Keeps.of_below (S := fun _ => False) hbx) (fun _ _ e => e.elim) (fun _ _ e => e)⟩
              have hc6 : (w6.alloc (.cells #[.slice (some ⟨g, 0, none⟩) m m] 34)).cell? ⟨w6.heap.size, 0, none⟩ = some (.slice (some ⟨g, 0, none⟩) m m) := by rw [cell_of_row _ _ 0 _ 34 (0, 0) (heap_alloc_last w6 _)]; rfl
              have hz6 : w.heap.size ≤ (w6.alloc (.cells #[.slice (some ⟨g, 0, none⟩) m m] 34)).heap.size := by have := HS5.out.1.sz; have := hbx.size; omega
              have hP6 : Hid (∀ i, (five db nb mb5 sb lb i ∨ i = wr.heap.size) → i < (w6.alloc (.cells #[.slice (some ⟨g, 0, none⟩) m m] 34)).heap.size) := fun i e => by have := HS5.out.1.ltP i e; have := hbx.size; omega
              have HG6 : Hid (∀ v7 w7, ListU w.heap.size w7 (fun i => five db nb mb5 sb lb i ∨ i = wr.heap.size) v7 (R ++ [s]) → Keeps (fun i => v6.ownBlock = some i) (w6.alloc (.cells #[.slice (some ⟨g, 0, none⟩) m m] 34)) w7 → CutU w.heap.size n (fun i => i = wr.heap.size) w wA w7 db nb mb5 cap k5 lb sb B5 left5 down5 v7 a (R ++ [s]) (R ++ [s]) ar y) := by
                intro v7 w7 h1 h2
                refine HS5.out.1.relist (hbx.trans (h2.below hbx.size (fun i e => ?_))) h1
                rcases ho6 with q | q
                · rw [q] at e; cases e
                · rw [q] at e; cases e; exact Nat.le_refl _
              clear hl6 ho6 hk6 hb6 hbx HS5
              go_wp2_with (at_builtin; refine wpList_append_recU2 rfl _ _ rfl w.heap.size _ v6 R rfl HX.out.1 w6.heap.size _ s rfl hc6 HX.out.2 hz6 hP6.out (by omega) ?_)
              intro v7 w7 hl7 hk7
              have hT7 := HG6.out v7 w7 hl7 hk7
              have HF : Hid (Calls Tryz.prog 23 #[.pointer (some ⟨lb, 0, none⟩)] _ _) := hT7.fin (i := i) (ue := (u : Int) + (m : Int) + 2) (u' := u + (m + 2)) HRn.out (by omega) (by rw [encR_snoc_len, HSl.out, HU.out.1]) HU.out.2 har (by omega) (by rw [List.length_append, List.length_singleton]; omega)
              clear HX hc6 hz6 hP6 HG6 hl7 hk7 hT7
              go_wp2_with fail
              refine HF.out.mono ?_
              rintro e wf ⟨rfl, HF2⟩
              clear HF
              go_wp2_with fail
              refine HF2.out.mono ?_
              rintro e wg ⟨rfl, HN⟩
              clear HF2
              go_wp2_with fail
              exact ⟨⟨i + 1, u + (m + 2), ar, by omega, by go_num, by go_num, rfl, HN⟩, by simp [RowKit.intOf]; omega⟩
            · as_aux_lemma =>
              have hsz5 : w.heap.size ≤ w5.heap.size := by obtain ⟨_, _, _, _, _, _, _, _, _, _, h5, _⟩ := hD5; exact h5
              have hEl : Hid (∀ i, i = wr.heap.size → i < w5.heap.size) := by obtain ⟨_, _, _, _, _, _, _, _, _, _, _, h6, _⟩ := hD5; exact fun i e => (h6 i e).1
              have hLl : ListU w.heap.size w5 (fun i => i = wr.heap.size) u10 R := by obtain ⟨_, _, _, _, _, _, _, _, h3, _⟩ := hD5; exact h3
              have HD5 : Hid (CutD w.heap.size n (fun i => i = wr.heap.size) w wA w5 db nb cap u10 R (fun R' x' y' => (R' = R ∨ R' = R ++ [s]) ∧ x' = ar ∧ y' = y) ∧ RecN w.heap.size w5 (fun i => i = wr.heap.size) (.slice (some ⟨g, 0, none⟩) m m) s ∧ ListU w.heap.size w5 (fun i => i = wr.heap.size) u10 R) := ⟨hD5, hv5, hLl⟩
              clear hD5 hv5 hLl
              go_wp2_with (at_builtin; refine wpList_append_copyU rfl _ _ rfl w.heap.size _ rfl _ R rfl HD5.out.2.2 hsz5 hEl.out (by omega) ?_)
              intro v6 w6 hl6 ho6 hk6
              have hs6 := hk6.size
              have hb6 : Below w5.heap.size w5 w6 := hk6.below (Nat.le_refl _) (fun _ e => e.elim)
              have hbx : Below w5.heap.size w5 (w6.alloc (.cells #[.slice (some ⟨g, 0, none⟩) m m] 34)) := hb6.alloc hs6 _
              have HX : Hid (ListU w.heap.size (w6.alloc (.cells #[.slice (some ⟨g, 0, none⟩) m m] 34)) (fun i => i = wr.heap.size) v6 R ∧ RecN w.heap.size (w6.alloc (.cells #[.slice (some ⟨g, 0, none⟩) m m] 34)) (fun i => i = wr.heap.size) (.slice (some ⟨g, 0, none⟩) m m) s) :=
                ⟨hl6.below ((Below.refl _ _).alloc (Nat.le_refl _) _), HD5.out.2.1.keep (Keeps.of_below (S := fun _ => False) hbx) (fun _ _ e => e.elim) (fun _ _ e => e)⟩
              have hc6 : (w6.alloc (.cells #[.slice (some ⟨g, 0, none⟩) m m] 34)).cell? ⟨w6.heap.size, 0, none⟩ = some (.slice (some ⟨g, 0, none⟩) m m) := by rw [cell_of_row _ _ 0 _ 34 (0, 0) (heap_alloc_last w6 _)]; rfl
              have hz6 : w.heap.size ≤ (w6.alloc (.cells #[.slice (some ⟨g, 0, none⟩) m m] 34)).heap.size := by have := hbx.size; omega
              have hP6 : Hid (∀ i, i = wr.heap.size → i < (w6.alloc (.cells #[.slice (some ⟨g, 0, none⟩) m m] 34)).heap.size) := fun i e => by have := hEl.out i e; have := hbx.size; omega
              have HG6 : Hid (∀ v7 w7, ListU w.heap.size w7 (fun i => i = wr.heap.size) v7 (R ++ [s]) → Keeps (fun i => v6.ownBlock = some i) (w6.alloc (.cells #[.slice (some ⟨g, 0, none⟩) m m] 34)) w7 → CutD w.heap.size n (fun i => i = wr.heap.size) w wA w7 db nb cap u10 R (fun R' x' y' => (R' = R ∨ R' = R ++ [s]) ∧ x' = ar ∧ y' = y)) := by
                intro v7 w7 h1 h2
                refine HD5.out.1.keep (hbx.trans (h2.below hbx.size (fun i e => ?_)))
                rcases ho6 with q | q
                · rw [q] at e; cases e
                · rw [q] at e; cases e; exact Nat.le_refl _
              clear hl6 ho6 hk6 hb6 hbx HD5 hEl hsz5
              go_wp2_with (at_builtin; refine wpList_append_recU2 rfl _ _ rfl w.heap.size _ v6 R rfl HX.out.1 w6.heap.size _ s rfl hc6 HX.out.2 hz6 hP6.out (by omega) ?_)
              intro v7 w7 hl7 hk7
              have hD7 := HG6.out v7 w7 hl7 hk7
              have v3x : w7.cell? ⟨wr.heap.size, 3, none⟩ = some (.slice ka kl kc) := (hD7.cell rfl).trans v3
              have HCr : Hid (Calls Tryz.prog 21 #[.pointer (some ⟨db, 0, none⟩), .slice ka kl kc] _ _) := hD7.chain hl7 kc HK.out
              have HTT : Hid (∀ R' x' y', ((R' = R ∨ R' = R ++ [s]) ∧ x' = ar ∧ y' = y) → ((R' = R ∧ x' = ar) ∨ (R' = R ++ [s] ∧ x' = ar)) ∧ (y' = x' + 1 ∨ y' = 0) ∧ (-1000000 ≤ x' ∧ x' ≤ 1000000) ∧ R'.length ≤ i + 1) := by
                rintro R' x' y' ⟨q1, rfl, rfl⟩
                refine ⟨q1.imp (fun e => ⟨e, rfl⟩) (fun e => ⟨e, rfl⟩), HU.out.2, har, ?_⟩
                rcases q1 with e | e
                · rw [e]; omega
                · rw [e, List.length_append, List.length_singleton]; omega
              clear HX hc6 hz6 hP6 HG6 hl7 hk7 hD7 v3
              go_wp2_with fail
              refine HCr.out.mono ?_
              rintro e wc ⟨dbc, R', x', y', rfl, HTx, HOp⟩
              obtain ⟨hor, hyx, hxb, hRb⟩ := HTT.out R' x' y' HTx.out
              clear HCr HTx HTT
              go_wp2_with fail
              refine HOp.out.mono ?_
              rintro e wo ⟨lbo, rp, rc, rfl, HAr⟩
              clear HOp
              go_wp2_with fail
              refine HAr.out.mono ?_
              rintro e wb ⟨rfl, HL⟩
              clear HAr v3x
              have HOr : Hid ((R' = R ∧ x' = ar) ∨ (R' = (R ++ [s]) ∧ x' = ar)) := hor
              clear hor
              have HYx : Hid (y' = x' + 1 ∨ y' = 0) := hyx
              clear hyx
              by_cases eR : R' = R
              · have HR1 : Hid (Calls Tryz.prog 24 #[.slice rp R'.length rc, u10] wb fun e w' => e = .returned (.bool true) ∧ Hid (LaC n (fun i => i = wr.heap.size) w wA w' dbc lbo (.slice rp R'.length rc) u10 v7 R' R (R ++ [s]) x' y')) := HL.out.rec1 (by omega) true (decide_eq_true eR)
                clear eR HL
                go_wp2_with fail
                refine HR1.out.mono ?_
                rintro e w5 ⟨rfl, HL⟩
                clear HR1
                by_cases ex : x' = ar
                · have exb : (x' == ar) = true := by rw [ex]; exact beq_self_eq_true _
                  clear HOr
                  obtain rfl := ex
                  by_cases hyy : y' = x' + 1
                  · subst hyy
                    clear HYx
                    go_wp2_with fail
                    go_loopw [12, 202] (fun s12 s202 wl => ∃ jj : Nat, jj ≤ R'.length ∧ s202 = .int .i64 jj ∧ s12 = .int .i64 ((encR (R'.take jj)).length : Int) ∧ Hid (LaC n (fun i => i = wr.heap.size) w wA wl dbc lbo (.slice rp R'.length rc) u10 v7 R' R (R ++ [s]) x' (x' + 1))) (fun _ s202 _ => R'.length - (RowKit.intOf s202).toNat)
                    case atStart => exact ⟨0, Nat.zero_le _, rfl, by rw [List.take_zero, encR_nil]; rfl, HL⟩
                    case round => as_aux_lemma =>
                      obtain ⟨jj, hjj, rfl, rfl, HLj⟩ := hrel
                      clear HL
                      by_cases hltj : jj < R'.length
                      · obtain ⟨nbc, mbc, capc, sbc, Bc, ac, hUc, _, _⟩ := HLj.out
                        obtain ⟨Uc, hRc, _⟩ := hUc.rcs
                        obtain ⟨gc, cc, ge, ce, ev, hcc, _, _, _⟩ := hRc.at_ jj hltj
                        obtain ⟨rfl, rfl⟩ : rp = some ⟨gc, 0, none⟩ ∧ rc = cc := by injection ev with a b c; exact ⟨a, c⟩
                        have HE : Hid ((encR (R'.take (jj + 1))).length = (encR (R'.take jj)).length + ((R'[jj]'hltj).length + 2)) := encR_take_succ R' jj hltj
                        have hle : (encR (R'.take jj)).length ≤ 100000 ∧ (R'[jj]'hltj).length ≤ 1000 := by
                          have q1 := hUc.log.sz
                          have q2 := (hUc.log.ok _ (List.getElem_mem hltj)).2
                          have q3 : (encR (R'.take jj)).length ≤ (encR R').length := by rw [encR_split R' jj, List.length_append]; omega
                          have q4 : ringN n = rn := HRn.out
                          exact ⟨by omega, q2⟩
                        clear hUc hRc ev
                        generalize (R'[jj]'hltj).length = le at *
                        generalize (encR (R'.take jj)).length = lt at *
                        go_wp2_with fail
                        exact ⟨⟨jj + 1, by omega, by go_num, by rw [HE.out]; go_num, HLj⟩, by simp [RowKit.intOf]; omega⟩
                      · obtain rfl : jj = R'.length := by omega
                        rw [List.take_length]
                        obtain ⟨nbc, mbc, capc, sbc, Bc, ac, hUc, _, _⟩ := HLj.out
                        have hez : (encR R').length ≤ 100000 := by
                          have q1 := hUc.log.sz
                          have q4 : ringN n = rn := HRn.out
                          omega
                        have HF : Hid (Calls Tryz.prog 23 #[.pointer (some ⟨lbo, 0, none⟩)] _ _) := hUc.fin (i := i) HRn.out rfl rfl (Or.inl rfl) hxb (by omega) hRb
                        clear HLj hUc
                        go_wp2_with fail
                        refine HF.out.mono ?_
                        rintro e wf ⟨rfl, HF2⟩
                        clear HF
                        go_wp2_with fail
                        refine HF2.out.mono ?_
                        rintro e wg ⟨rfl, HN⟩
                        clear HF2
                        go_wp2_with fail
                        exact ⟨⟨i + 1, (encR R').length, x', by omega, by go_num, rfl, rfl, HN⟩, by simp [RowKit.intOf]; omega⟩
                  · have hy0 : y' = 0 := by rcases HYx.out with q | q; exact absurd q hyy; exact q
                    subst hy0
                    have hyn : ((0 : Int) != x' + 1) = true := by simpa using hyy
                    clear HYx hyy
                    go_wp2_with fail
                    go_loopw [12, 202] (fun s12 s202 wl => ∃ jj : Nat, jj ≤ R'.length ∧ s202 = .int .i64 jj ∧ s12 = .int .i64 ((encR (R'.take jj)).length : Int) ∧ Hid (LaC n (fun i => i = wr.heap.size) w wA wl dbc lbo (.slice rp R'.length rc) u10 v7 R' R (R ++ [s]) x' (0))) (fun _ s202 _ => R'.length - (RowKit.intOf s202).toNat)
                    case atStart => exact ⟨0, Nat.zero_le _, rfl, by rw [List.take_zero, encR_nil]; rfl, HL⟩
                    case round => as_aux_lemma =>
                      obtain ⟨jj, hjj, rfl, rfl, HLj⟩ := hrel
                      clear HL
                      by_cases hltj : jj < R'.length
                      · obtain ⟨nbc, mbc, capc, sbc, Bc, ac, hUc, _, _⟩ := HLj.out
                        obtain ⟨Uc, hRc, _⟩ := hUc.rcs
                        obtain ⟨gc, cc, ge, ce, ev, hcc, _, _, _⟩ := hRc.at_ jj hltj
                        obtain ⟨rfl, rfl⟩ : rp = some ⟨gc, 0, none⟩ ∧ rc = cc := by injection ev with a b c; exact ⟨a, c⟩
                        have HE : Hid ((encR (R'.take (jj + 1))).length = (encR (R'.take jj)).length + ((R'[jj]'hltj).length + 2)) := encR_take_succ R' jj hltj
                        have hle : (encR (R'.take jj)).length ≤ 100000 ∧ (R'[jj]'hltj).length ≤ 1000 := by
                          have q1 := hUc.log.sz
                          have q2 := (hUc.log.ok _ (List.getElem_mem hltj)).2
                          have q3 : (encR (R'.take jj)).length ≤ (encR R').length := by rw [encR_split R' jj, List.length_append]; omega
                          have q4 : ringN n = rn := HRn.out
                          exact ⟨by omega, q2⟩
                        clear hUc hRc ev
                        generalize (R'[jj]'hltj).length = le at *
                        generalize (encR (R'.take jj)).length = lt at *
                        go_wp2_with fail
                        exact ⟨⟨jj + 1, by omega, by go_num, by rw [HE.out]; go_num, HLj⟩, by simp [RowKit.intOf]; omega⟩
                      · obtain rfl : jj = R'.length := by omega
                        rw [List.take_length]
                        obtain ⟨nbc, mbc, capc, sbc, Bc, ac, hUc, _, _⟩ := HLj.out
                        have hez : (encR R').length ≤ 100000 := by
                          have q1 := hUc.log.sz
                          have q4 : ringN n = rn := HRn.out
                          omega
                        have HF : Hid (Calls Tryz.prog 23 #[.pointer (some ⟨lbo, 0, none⟩)] _ _) := hUc.fin (i := i) HRn.out rfl rfl (Or.inr rfl) hxb (by omega) hRb
                        clear HLj hUc
                        go_wp2_with fail
                        refine HF.out.mono ?_
                        rintro e wf ⟨rfl, HF2⟩
                        clear HF
                        go_wp2_with fail
                        refine HF2.out.mono ?_
                        rintro e wg ⟨rfl, HN⟩
                        clear HF2
                        go_wp2_with fail
                        exact ⟨⟨i + 1, (encR R').length, x', by omega, by go_num, rfl, rfl, HN⟩, by simp [RowKit.intOf]; omega⟩
                · have exb : (x' == ar) = false := by rw [beq_eq_false_iff_ne]; exact ex
                  have ho : R' = (R ++ [s]) ∧ x' = ar := by
                    rcases HOr.out with q | q
                    · exact absurd q.2 ex
                    · exact q
                  clear HOr
                  exact absurd ho.2 ex
              · have HR1 : Hid (Calls Tryz.prog 24 #[.slice rp R'.length rc, u10] wb fun e w' => e = .returned (.bool false) ∧ Hid (LaC n (fun i => i = wr.heap.size) w wA w' dbc lbo (.slice rp R'.length rc) u10 v7 R' R (R ++ [s]) x' y')) := HL.out.rec1 (by omega) false (decide_eq_false eR)
                have ho : R' = (R ++ [s]) ∧ x' = ar := by
                  rcases HOr.out with q | q
                  · exact absurd q.1 eR
                  · exact q
                have Hho : Hid (R' = (R ++ [s]) ∧ x' = ar) := ho
                clear HOr eR HL ho
                go_wp2_with fail
                refine HR1.out.mono ?_
                rintro e w5 ⟨rfl, HL⟩
                clear HR1
                have ho := Hho.out
                clear Hho
                have HR2 : Hid (Calls Tryz.prog 24 #[.slice rp R'.length rc, v7] w5 fun e w' => e = .returned (.bool true) ∧ Hid (LaC n (fun i => i = wr.heap.size) w wA w' dbc lbo (.slice rp R'.length rc) u10 v7 R' R (R ++ [s]) x' y')) := HL.out.rec2 (by omega) ho.1
                obtain hox := ho.2
                clear ho HL
                subst hox
                go_wp2_with fail
                refine HR2.out.mono ?_
                rintro e w6 ⟨rfl, HL⟩
                clear HR2
                by_cases hyy : y' = x' + 1
                · subst hyy
                  clear HYx
                  go_wp2_with fail
                  go_loopw [12, 202] (fun s12 s202 wl => ∃ jj : Nat, jj ≤ R'.length ∧ s202 = .int .i64 jj ∧ s12 = .int .i64 ((encR (R'.take jj)).length : Int) ∧ Hid (LaC n (fun i => i = wr.heap.size) w wA wl dbc lbo (.slice rp R'.length rc) u10 v7 R' R (R ++ [s]) x' (x' + 1))) (fun _ s202 _ => R'.length - (RowKit.intOf s202).toNat)
                  case atStart => exact ⟨0, Nat.zero_le _, rfl, by rw [List.take_zero, encR_nil]; rfl, HL⟩
                  case round => as_aux_lemma =>
                    obtain ⟨jj, hjj, rfl, rfl, HLj⟩ := hrel
                    clear HL
                    by_cases hltj : jj < R'.length
                    · obtain ⟨nbc, mbc, capc, sbc, Bc, ac, hUc, _, _⟩ := HLj.out
                      obtain ⟨Uc, hRc, _⟩ := hUc.rcs
                      obtain ⟨gc, cc, ge, ce, ev, hcc, _, _, _⟩ := hRc.at_ jj hltj
                      obtain ⟨rfl, rfl⟩ : rp = some ⟨gc, 0, none⟩ ∧ rc = cc := by injection ev with a b c; exact ⟨a, c⟩
                      have HE : Hid ((encR (R'.take (jj + 1))).length = (encR (R'.take jj)).length + ((R'[jj]'hltj).length + 2)) := encR_take_succ R' jj hltj
                      have hle : (encR (R'.take jj)).length ≤ 100000 ∧ (R'[jj]'hltj).length ≤ 1000 := by
                        have q1 := hUc.log.sz
                        have q2 := (hUc.log.ok _ (List.getElem_mem hltj)).2
                        have q3 : (encR (R'.take jj)).length ≤ (encR R').length := by rw [encR_split R' jj, List.length_append]; omega
                        have q4 : ringN n = rn := HRn.out
                        exact ⟨by omega, q2⟩
                      clear hUc hRc ev
                      generalize (R'[jj]'hltj).length = le at *
                      generalize (encR (R'.take jj)).length = lt at *
                      go_wp2_with fail
                      exact ⟨⟨jj + 1, by omega, by go_num, by rw [HE.out]; go_num, HLj⟩, by simp [RowKit.intOf]; omega⟩
                    · obtain rfl : jj = R'.length := by omega
                      rw [List.take_length]
                      obtain ⟨nbc, mbc, capc, sbc, Bc, ac, hUc, _, _⟩ := HLj.out
                      have hez : (encR R').length ≤ 100000 := by
                        have q1 := hUc.log.sz
                        have q4 : ringN n = rn := HRn.out
                        omega
                      have HF : Hid (Calls Tryz.prog 23 #[.pointer (some ⟨lbo, 0, none⟩)] _ _) := hUc.fin (i := i) HRn.out rfl rfl (Or.inl rfl) hxb (by omega) hRb
                      clear HLj hUc
                      go_wp2_with fail
                      refine HF.out.mono ?_
                      rintro e wf ⟨rfl, HF2⟩
                      clear HF
                      go_wp2_with fail
                      refine HF2.out.mono ?_
                      rintro e wg ⟨rfl, HN⟩
                      clear HF2
                      go_wp2_with fail
                      exact ⟨⟨i + 1, (encR R').length, x', by omega, by go_num, rfl, rfl, HN⟩, by simp [RowKit.intOf]; omega⟩
                · have hy0 : y' = 0 := by rcases HYx.out with q | q; exact absurd q hyy; exact q
                  subst hy0
                  have hyn : ((0 : Int) != x' + 1) = true := by simpa using hyy
                  clear HYx hyy
                  go_wp2_with fail
                  go_loopw [12, 202] (fun s12 s202 wl => ∃ jj : Nat, jj ≤ R'.length ∧ s202 = .int .i64 jj ∧ s12 = .int .i64 ((encR (R'.take jj)).length : Int) ∧ Hid (LaC n (fun i => i = wr.heap.size) w wA wl dbc lbo (.slice rp R'.length rc) u10 v7 R' R (R ++ [s]) x' (0))) (fun _ s202 _ => R'.length - (RowKit.intOf s202).toNat)
                  case atStart => exact ⟨0, Nat.zero_le _, rfl, by rw [List.take_zero, encR_nil]; rfl, HL⟩
                  case round => as_aux_lemma =>
                    obtain ⟨jj, hjj, rfl, rfl, HLj⟩ := hrel
                    clear HL
                    by_cases hltj : jj < R'.length
                    · obtain ⟨nbc, mbc, capc, sbc, Bc, ac, hUc, _, _⟩ := HLj.out
                      obtain ⟨Uc, hRc, _⟩ := hUc.rcs
                      obtain ⟨gc, cc, ge, ce, ev, hcc, _, _, _⟩ := hRc.at_ jj hltj
                      obtain ⟨rfl, rfl⟩ : rp = some ⟨gc, 0, none⟩ ∧ rc = cc := by injection ev with a b c; exact ⟨a, c⟩
                      have HE : Hid ((encR (R'.take (jj + 1))).length = (encR (R'.take jj)).length + ((R'[jj]'hltj).length + 2)) := encR_take_succ R' jj hltj
                      have hle : (encR (R'.take jj)).length ≤ 100000 ∧ (R'[jj]'hltj).length ≤ 1000 := by
                        have q1 := hUc.log.sz
                        have q2 := (hUc.log.ok _ (List.getElem_mem hltj)).2
                        have q3 : (encR (R'.take jj)).length ≤ (encR R').length := by rw [encR_split R' jj, List.length_append]; omega
                        have q4 : ringN n = rn := HRn.out
                        exact ⟨by omega, q2⟩
                      clear hUc hRc ev
                      generalize (R'[jj]'hltj).length = le at *
                      generalize (encR (R'.take jj)).length = lt at *
                      go_wp2_with fail
                      exact ⟨⟨jj + 1, by omega, by go_num, by rw [HE.out]; go_num, HLj⟩, by simp [RowKit.intOf]; omega⟩
                    · obtain rfl : jj = R'.length := by omega
                      rw [List.take_length]
                      obtain ⟨nbc, mbc, capc, sbc, Bc, ac, hUc, _, _⟩ := HLj.out
                      have hez : (encR R').length ≤ 100000 := by
                        have q1 := hUc.log.sz
                        have q4 : ringN n = rn := HRn.out
                        omega
                      have HF : Hid (Calls Tryz.prog 23 #[.pointer (some ⟨lbo, 0, none⟩)] _ _) := hUc.fin (i := i) HRn.out rfl rfl (Or.inr rfl) hxb (by omega) hRb
                      clear HLj hUc
                      go_wp2_with fail
                      refine HF.out.mono ?_
                      rintro e wf ⟨rfl, HF2⟩
                      clear HF
                      go_wp2_with fail
                      refine HF2.out.mono ?_
                      rintro e wg ⟨rfl, HN⟩
                      clear HF2
                      go_wp2_with fail
                      exact ⟨⟨i + 1, (encR R').length, x', by omega, by go_num, rfl, rfl, HN⟩, by simp [RowKit.intOf]; omega⟩
      · by_cases hk1 : kd = 1
        · subst hk1
          clear hk0
          have hN6 := rem_any N 1000000 (by omega)
          have HRs : Hid (Calls Tryz.prog 19 #[.pointer (some ⟨lb, 0, none⟩), .int .i64 (N.tmod 1000000), .int .i64 (N.tmod 1000000 + 1)] (wr.alloc (.cells #[.int .i64 1, .int .i64 N, .int .u8 x.toNat, .slice ka kl kc] 33)) fun e w' => (e = .returned (.int .i64 0) ∧ ∃ mb' k' B' a' left' down', k' ≤ k + 1 ∧ CutU w.heap.size n (fun i => i = wr.heap.size) w (wr.alloc (.cells #[.int .i64 1, .int .i64 N, .int .u8 x.toNat, .slice ka kl kc] 33)) w' db nb mb' cap k' lb sb B' left' down' u10 a' [] R (N.tmod 1000000) (N.tmod 1000000 + 1)) ∨ (e = .returned (.int .i64 9) ∧ CutD w.heap.size n (fun i => i = wr.heap.size) w (wr.alloc (.cells #[.int .i64 1, .int .i64 N, .int .u8 x.toNat, .slice ka kl kc] 33)) w' db nb cap u10 R (fun R' x' y' => (R' = R ∧ x' = ar ∧ y' = y) ∨ (R' = [] ∧ x' = N.tmod 1000000 ∧ y' = N.tmod 1000000 + 1)))) := by
            show Calls _ _ _ _ _
            exact HS.out.1.reset_two (by omega) _ _ (fun q hq => by
              simp only [List.mem_cons, List.not_mem_nil, or_false] at hq
              rcases hq with rfl | rfl <;> omega)
          have HU : Hid (y = ar + 1 ∨ y = 0) := HS.out.2.2
          clear HS
          go_wp2_with fail
          clear d0 d1 d2 d3 v0 v1 v2
          generalize wr.alloc (.cells #[.int .i64 1, .int .i64 N, .int .u8 x.toNat, .slice ka kl kc] 33) = wA at HRs v3 hoA ⊢
          refine HRs.out.mono ?_
          rintro e w5 h5
          clear HRs
          generalize N.tmod 1000000 = Na at hN6 h5 ⊢
          rcases h5 with ⟨rfl, mb5, k5, B5, a5, left5, down5, hk5, hS5⟩ | ⟨rfl, hD5⟩
          · as_aux_lemma =>
            have hS5' : CutU w.heap.size n (fun i => i = wr.heap.size) w wA w5 db nb mb5 cap k5 lb sb B5 left5 down5 (.slice none 0 0) a5 [] [] Na (Na + 1) := { hS5 with rcs := ListU.nil _ _ _ }
            have HF : Hid (Calls Tryz.prog 23 #[.pointer (some ⟨lb, 0, none⟩)] _ _) := hS5'.fin (i := i) (ue := 0) (u' := 0) HRn.out rfl (by rw [encR_nil]; rfl) (Or.inl rfl) (by omega) (by omega) (Nat.zero_le _)
            clear hS5 hS5' v3
            go_wp2_with fail
            refine HF.out.mono ?_
            rintro e wf ⟨rfl, HF2⟩
            clear HF
            go_wp2_with fail
            refine HF2.out.mono ?_
            rintro e wg ⟨rfl, HN⟩
            clear HF2
            go_wp2_with fail
            exact ⟨⟨i + 1, 0, Na, by omega, by go_num, rfl, rfl, HN⟩, by simp [RowKit.intOf]; omega⟩
          · as_aux_lemma =>
            have v3x : w5.cell? ⟨wr.heap.size, 3, none⟩ = some (.slice ka kl kc) := (hD5.cell rfl).trans v3
            have HCr : Hid (Calls Tryz.prog 21 #[.pointer (some ⟨db, 0, none⟩), .slice ka kl kc] _ _) := hD5.chain (ListU.nil _ _ _) kc HK.out
            have HTT : Hid (∀ R' x' y', ((R' = R ∧ x' = ar ∧ y' = y) ∨ (R' = [] ∧ x' = Na ∧ y' = Na + 1)) → ((R' = R ∧ x' = ar) ∨ (R' = [] ∧ x' = Na)) ∧ (y' = x' + 1 ∨ y' = 0) ∧ (-1000000 ≤ x' ∧ x' ≤ 1000000) ∧ R'.length ≤ i + 1) := by
              rintro R' x' y' (⟨rfl, rfl, rfl⟩ | ⟨rfl, rfl, rfl⟩)
              · exact ⟨Or.inl ⟨rfl, rfl⟩, HU.out, har, by omega⟩
              · exact ⟨Or.inr ⟨rfl, rfl⟩, Or.inl rfl, by omega, Nat.zero_le _⟩
            clear hD5 v3
            go_wp2_with fail
            refine HCr.out.mono ?_
            rintro e wc ⟨dbc, R', x', y', rfl, HTx, HOp⟩
            obtain ⟨hor, hyx, hxb, hRb⟩ := HTT.out R' x' y' HTx.out
            clear HCr HTx HTT
            go_wp2_with fail
            refine HOp.out.mono ?_
            rintro e wo ⟨lbo, rp, rc, rfl, HAr⟩
            clear HOp
            go_wp2_with fail
            refine HAr.out.mono ?_
            rintro e wb ⟨rfl, HL⟩
            clear HAr v3x
            have HOr : Hid ((R' = R ∧ x' = ar) ∨ (R' = [] ∧ x' = Na)) := hor
            clear hor
            have HYx : Hid (y' = x' + 1 ∨ y' = 0) := hyx
            clear hyx
            by_cases eR : R' = R
            · have HR1 : Hid (Calls Tryz.prog 24 #[.slice rp R'.length rc, u10] wb fun e w' => e = .returned (.bool true) ∧ Hid (LaC n (fun i => i = wr.heap.size) w wA w' dbc lbo (.slice rp R'.length rc) u10 (.slice none 0 0) R' R [] x' y')) := HL.out.rec1 (by omega) true (decide_eq_true eR)
              clear eR HL
              go_wp2_with fail
              refine HR1.out.mono ?_
              rintro e w5 ⟨rfl, HL⟩
              clear HR1
              by_cases ex : x' = ar
              · have exb : (x' == ar) = true := by rw [ex]; exact beq_self_eq_true _
                clear HOr
                obtain rfl := ex
                by_cases hyy : y' = x' + 1
                · subst hyy
                  clear HYx
                  go_wp2_with fail
                  go_loopw [12, 202] (fun s12 s202 wl => ∃ jj : Nat, jj ≤ R'.length ∧ s202 = .int .i64 jj ∧ s12 = .int .i64 ((encR (R'.take jj)).length : Int) ∧ Hid (LaC n (fun i => i = wr.heap.size) w wA wl dbc lbo (.slice rp R'.length rc) u10 (.slice none 0 0) R' R [] x' (x' + 1))) (fun _ s202 _ => R'.length - (RowKit.intOf s202).toNat)
                  case atStart => exact ⟨0, Nat.zero_le _, rfl, by rw [List.take_zero, encR_nil]; rfl, HL⟩
                  case round => as_aux_lemma =>
                    obtain ⟨jj, hjj, rfl, rfl, HLj⟩ := hrel
                    clear HL
                    by_cases hltj : jj < R'.length
                    · obtain ⟨nbc, mbc, capc, sbc, Bc, ac, hUc, _, _⟩ := HLj.out
                      obtain ⟨Uc, hRc, _⟩ := hUc.rcs
                      obtain ⟨gc, cc, ge, ce, ev, hcc, _, _, _⟩ := hRc.at_ jj hltj
                      obtain ⟨rfl, rfl⟩ : rp = some ⟨gc, 0, none⟩ ∧ rc = cc := by injection ev with a b c; exact ⟨a, c⟩
                      have HE : Hid ((encR (R'.take (jj + 1))).length = (encR (R'.take jj)).length + ((R'[jj]'hltj).length + 2)) := encR_take_succ R' jj hltj
                      have hle : (encR (R'.take jj)).length ≤ 100000 ∧ (R'[jj]'hltj).length ≤ 1000 := by
                        have q1 := hUc.log.sz
                        have q2 := (hUc.log.ok _ (List.getElem_mem hltj)).2
                        have q3 : (encR (R'.take jj)).length ≤ (encR R').length := by rw [encR_split R' jj, List.length_append]; omega
                        have q4 : ringN n = rn := HRn.out
                        exact ⟨by omega, q2⟩
                      clear hUc hRc ev
                      generalize (R'[jj]'hltj).length = le at *
                      generalize (encR (R'.take jj)).length = lt at *
                      go_wp2_with fail
                      exact ⟨⟨jj + 1, by omega, by go_num, by rw [HE.out]; go_num, HLj⟩, by simp [RowKit.intOf]; omega⟩
                    · obtain rfl : jj = R'.length := by omega
                      rw [List.take_length]
                      obtain ⟨nbc, mbc, capc, sbc, Bc, ac, hUc, _, _⟩ := HLj.out
                      have hez : (encR R').length ≤ 100000 := by
                        have q1 := hUc.log.sz
                        have q4 : ringN n = rn := HRn.out
                        omega
                      have HF : Hid (Calls Tryz.prog 23 #[.pointer (some ⟨lbo, 0, none⟩)] _ _) := hUc.fin (i := i) HRn.out rfl rfl (Or.inl rfl) hxb (by omega) hRb
                      clear HLj hUc
                      go_wp2_with fail
                      refine HF.out.mono ?_
                      rintro e wf ⟨rfl, HF2⟩
                      clear HF
                      go_wp2_with fail
                      refine HF2.out.mono ?_
                      rintro e wg ⟨rfl, HN⟩
                      clear HF2
                      go_wp2_with fail
                      exact ⟨⟨i + 1, (encR R').length, x', by omega, by go_num, rfl, rfl, HN⟩, by simp [RowKit.intOf]; omega⟩
                · have hy0 : y' = 0 := by rcases HYx.out with q | q; exact absurd q hyy; exact q
                  subst hy0
                  have hyn : ((0 : Int) != x' + 1) = true := by simpa using hyy
                  clear HYx hyy
                  go_wp2_with fail
                  go_loopw [12, 202] (fun s12 s202 wl => ∃ jj : Nat, jj ≤ R'.length ∧ s202 = .int .i64 jj ∧ s12 = .int .i64 ((encR (R'.take jj)).length : Int) ∧ Hid (LaC n (fun i => i = wr.heap.size) w wA wl dbc lbo (.slice rp R'.length rc) u10 (.slice none 0 0) R' R [] x' (0))) (fun _ s202 _ => R'.length - (RowKit.intOf s202).toNat)
                  case atStart => exact ⟨0, Nat.zero_le _, rfl, by rw [List.take_zero, encR_nil]; rfl, HL⟩
                  case round => as_aux_lemma =>
                    obtain ⟨jj, hjj, rfl, rfl, HLj⟩ := hrel
                    clear HL
                    by_cases hltj : jj < R'.length
                    · obtain ⟨nbc, mbc, capc, sbc, Bc, ac, hUc, _, _⟩ := HLj.out
                      obtain ⟨Uc, hRc, _⟩ := hUc.rcs
                      obtain ⟨gc, cc, ge, ce, ev, hcc, _, _, _⟩ := hRc.at_ jj hltj
                      obtain ⟨rfl, rfl⟩ : rp = some ⟨gc, 0, none⟩ ∧ rc = cc := by injection ev with a b c; exact ⟨a, c⟩
                      have HE : Hid ((encR (R'.take (jj + 1))).length = (encR (R'.take jj)).length + ((R'[jj]'hltj).length + 2)) := encR_take_succ R' jj hltj
                      have hle : (encR (R'.take jj)).length ≤ 100000 ∧ (R'[jj]'hltj).length ≤ 1000 := by
                        have q1 := hUc.log.sz
                        have q2 := (hUc.log.ok _ (List.getElem_mem hltj)).2
                        have q3 : (encR (R'.take jj)).length ≤ (encR R').length := by rw [encR_split R' jj, List.length_append]; omega
                        have q4 : ringN n = rn := HRn.out
                        exact ⟨by omega, q2⟩
                      clear hUc hRc ev
                      generalize (R'[jj]'hltj).length = le at *
                      generalize (encR (R'.take jj)).length = lt at *
                      go_wp2_with fail
                      exact ⟨⟨jj + 1, by omega, by go_num, by rw [HE.out]; go_num, HLj⟩, by simp [RowKit.intOf]; omega⟩
                    · obtain rfl : jj = R'.length := by omega
                      rw [List.take_length]
                      obtain ⟨nbc, mbc, capc, sbc, Bc, ac, hUc, _, _⟩ := HLj.out
                      have hez : (encR R').length ≤ 100000 := by
                        have q1 := hUc.log.sz
                        have q4 : ringN n = rn := HRn.out
                        omega
                      have HF : Hid (Calls Tryz.prog 23 #[.pointer (some ⟨lbo, 0, none⟩)] _ _) := hUc.fin (i := i) HRn.out rfl rfl (Or.inr rfl) hxb (by omega) hRb
                      clear HLj hUc
                      go_wp2_with fail
                      refine HF.out.mono ?_
                      rintro e wf ⟨rfl, HF2⟩
                      clear HF
                      go_wp2_with fail
                      refine HF2.out.mono ?_
                      rintro e wg ⟨rfl, HN⟩
                      clear HF2
                      go_wp2_with fail
                      exact ⟨⟨i + 1, (encR R').length, x', by omega, by go_num, rfl, rfl, HN⟩, by simp [RowKit.intOf]; omega⟩
              · have exb : (x' == ar) = false := by rw [beq_eq_false_iff_ne]; exact ex
                have ho : R' = [] ∧ x' = Na := by
                  rcases HOr.out with q | q
                  · exact absurd q.2 ex
                  · exact q
                clear HOr
                have HR2 : Hid (Calls Tryz.prog 24 #[.slice rp R'.length rc, (.slice none 0 0)] w5 fun e w' => e = .returned (.bool true) ∧ Hid (LaC n (fun i => i = wr.heap.size) w wA w' dbc lbo (.slice rp R'.length rc) u10 (.slice none 0 0) R' R [] x' y')) := HL.out.rec2 (by omega) ho.1
                obtain hox := ho.2
                clear ho HL
                subst hox
                go_wp2_with fail
                refine HR2.out.mono ?_
                rintro e w6 ⟨rfl, HL⟩
                clear HR2
                by_cases hyy : y' = x' + 1
                · subst hyy
                  clear HYx
                  go_wp2_with fail
                  go_loopw [12, 202] (fun s12 s202 wl => ∃ jj : Nat, jj ≤ R'.length ∧ s202 = .int .i64 jj ∧ s12 = .int .i64 ((encR (R'.take jj)).length : Int) ∧ Hid (LaC n (fun i => i = wr.heap.size) w wA wl dbc lbo (.slice rp R'.length rc) u10 (.slice none 0 0) R' R [] x' (x' + 1))) (fun _ s202 _ => R'.length - (RowKit.intOf s202).toNat)
                  case atStart => exact ⟨0, Nat.zero_le _, rfl, by rw [List.take_zero, encR_nil]; rfl, HL⟩
                  case round => as_aux_lemma =>
                    obtain ⟨jj, hjj, rfl, rfl, HLj⟩ := hrel
                    clear HL
                    by_cases hltj : jj < R'.length
                    · obtain ⟨nbc, mbc, capc, sbc, Bc, ac, hUc, _, _⟩ := HLj.out
                      obtain ⟨Uc, hRc, _⟩ := hUc.rcs
                      obtain ⟨gc, cc, ge, ce, ev, hcc, _, _, _⟩ := hRc.at_ jj hltj
                      obtain ⟨rfl, rfl⟩ : rp = some ⟨gc, 0, none⟩ ∧ rc = cc := by injection ev with a b c; exact ⟨a, c⟩
                      have HE : Hid ((encR (R'.take (jj + 1))).length = (encR (R'.take jj)).length + ((R'[jj]'hltj).length + 2)) := encR_take_succ R' jj hltj
                      have hle : (encR (R'.take jj)).length ≤ 100000 ∧ (R'[jj]'hltj).length ≤ 1000 := by
                        have q1 := hUc.log.sz
                        have q2 := (hUc.log.ok _ (List.getElem_mem hltj)).2
                        have q3 : (encR (R'.take jj)).length ≤ (encR R').length := by rw [encR_split R' jj, List.length_append]; omega
                        have q4 : ringN n = rn := HRn.out
                        exact ⟨by omega, q2⟩
                      clear hUc hRc ev
                      generalize (R'[jj]'hltj).length = le at *
                      generalize (encR (R'.take jj)).length = lt at *
                      go_wp2_with fail
                      exact ⟨⟨jj + 1, by omega, by go_num, by rw [HE.out]; go_num, HLj⟩, by simp [RowKit.intOf]; omega⟩
                    · obtain rfl : jj = R'.length := by omega
                      rw [List.take_length]
                      obtain ⟨nbc, mbc, capc, sbc, Bc, ac, hUc, _, _⟩ := HLj.out
                      have hez : (encR R').length ≤ 100000 := by
                        have q1 := hUc.log.sz
                        have q4 : ringN n = rn := HRn.out
                        omega
                      have HF : Hid (Calls Tryz.prog 23 #[.pointer (some ⟨lbo, 0, none⟩)] _ _) := hUc.fin (i := i) HRn.out rfl rfl (Or.inl rfl) hxb (by omega) hRb
                      clear HLj hUc
                      go_wp2_with fail
                      refine HF.out.mono ?_
                      rintro e wf ⟨rfl, HF2⟩
                      clear HF
                      go_wp2_with fail
                      refine HF2.out.mono ?_
                      rintro e wg ⟨rfl, HN⟩
                      clear HF2
                      go_wp2_with fail
                      exact ⟨⟨i + 1, (encR R').length, x', by omega, by go_num, rfl, rfl, HN⟩, by simp [RowKit.intOf]; omega⟩
                · have hy0 : y' = 0 := by rcases HYx.out with q | q; exact absurd q hyy; exact q
                  subst hy0
                  have hyn : ((0 : Int) != x' + 1) = true := by simpa using hyy
                  clear HYx hyy
                  go_wp2_with fail
                  go_loopw [12, 202] (fun s12 s202 wl => ∃ jj : Nat, jj ≤ R'.length ∧ s202 = .int .i64 jj ∧ s12 = .int .i64 ((encR (R'.take jj)).length : Int) ∧ Hid (LaC n (fun i => i = wr.heap.size) w wA wl dbc lbo (.slice rp R'.length rc) u10 (.slice none 0 0) R' R [] x' (0))) (fun _ s202 _ => R'.length - (RowKit.intOf s202).toNat)
                  case atStart => exact ⟨0, Nat.zero_le _, rfl, by rw [List.take_zero, encR_nil]; rfl, HL⟩
                  case round => as_aux_lemma =>
                    obtain ⟨jj, hjj, rfl, rfl, HLj⟩ := hrel
                    clear HL
                    by_cases hltj : jj < R'.length
                    · obtain ⟨nbc, mbc, capc, sbc, Bc, ac, hUc, _, _⟩ := HLj.out
                      obtain ⟨Uc, hRc, _⟩ := hUc.rcs
                      obtain ⟨gc, cc, ge, ce, ev, hcc, _, _, _⟩ := hRc.at_ jj hltj
                      obtain ⟨rfl, rfl⟩ : rp = some ⟨gc, 0, none⟩ ∧ rc = cc := by injection ev with a b c; exact ⟨a, c⟩
                      have HE : Hid ((encR (R'.take (jj + 1))).length = (encR (R'.take jj)).length + ((R'[jj]'hltj).length + 2)) := encR_take_succ R' jj hltj
                      have hle : (encR (R'.take jj)).length ≤ 100000 ∧ (R'[jj]'hltj).length ≤ 1000 := by
                        have q1 := hUc.log.sz
                        have q2 := (hUc.log.ok _ (List.getElem_mem hltj)).2
                        have q3 : (encR (R'.take jj)).length ≤ (encR R').length := by rw [encR_split R' jj, List.length_append]; omega
                        have q4 : ringN n = rn := HRn.out
                        exact ⟨by omega, q2⟩
                      clear hUc hRc ev
                      generalize (R'[jj]'hltj).length = le at *
                      generalize (encR (R'.take jj)).length = lt at *
                      go_wp2_with fail
                      exact ⟨⟨jj + 1, by omega, by go_num, by rw [HE.out]; go_num, HLj⟩, by simp [RowKit.intOf]; omega⟩
                    · obtain rfl : jj = R'.length := by omega
                      rw [List.take_length]
                      obtain ⟨nbc, mbc, capc, sbc, Bc, ac, hUc, _, _⟩ := HLj.out
                      have hez : (encR R').length ≤ 100000 := by
                        have q1 := hUc.log.sz
                        have q4 : ringN n = rn := HRn.out
                        omega
                      have HF : Hid (Calls Tryz.prog 23 #[.pointer (some ⟨lbo, 0, none⟩)] _ _) := hUc.fin (i := i) HRn.out rfl rfl (Or.inr rfl) hxb (by omega) hRb
                      clear HLj hUc
                      go_wp2_with fail
                      refine HF.out.mono ?_
                      rintro e wf ⟨rfl, HF2⟩
                      clear HF
                      go_wp2_with fail
                      refine HF2.out.mono ?_
                      rintro e wg ⟨rfl, HN⟩
                      clear HF2
                      go_wp2_with fail
                      exact ⟨⟨i + 1, (encR R').length, x', by omega, by go_num, rfl, rfl, HN⟩, by simp [RowKit.intOf]; omega⟩
            · have HR1 : Hid (Calls Tryz.prog 24 #[.slice rp R'.length rc, u10] wb fun e w' => e = .returned (.bool false) ∧ Hid (LaC n (fun i => i = wr.heap.size) w wA w' dbc lbo (.slice rp R'.length rc) u10 (.slice none 0 0) R' R [] x' y')) := HL.out.rec1 (by omega) false (decide_eq_false eR)
              have ho : R' = [] ∧ x' = Na := by
                rcases HOr.out with q | q
                · exact absurd q.1 eR
                · exact q
              have Hho : Hid (R' = [] ∧ x' = Na) := ho
              clear HOr eR HL ho
              go_wp2_with fail
              refine HR1.out.mono ?_
              rintro e w5 ⟨rfl, HL⟩
              clear HR1
              have ho := Hho.out
              clear Hho
              have HR2 : Hid (Calls Tryz.prog 24 #[.slice rp R'.length rc, (.slice none 0 0)] w5 fun e w' => e = .returned (.bool true) ∧ Hid (LaC n (fun i => i = wr.heap.size) w wA w' dbc lbo (.slice rp R'.length rc) u10 (.slice none 0 0) R' R [] x' y')) := HL.out.rec2 (by omega) ho.1
              obtain hox := ho.2
              clear ho HL
              subst hox
              go_wp2_with fail
              refine HR2.out.mono ?_
              rintro e w6 ⟨rfl, HL⟩
              clear HR2
              by_cases hyy : y' = x' + 1
              · subst hyy
                clear HYx
                go_wp2_with fail
                go_loopw [12, 202] (fun s12 s202 wl => ∃ jj : Nat, jj ≤ R'.length ∧ s202 = .int .i64 jj ∧ s12 = .int .i64 ((encR (R'.take jj)).length : Int) ∧ Hid (LaC n (fun i => i = wr.heap.size) w wA wl dbc lbo (.slice rp R'.length rc) u10 (.slice none 0 0) R' R [] x' (x' + 1))) (fun _ s202 _ => R'.length - (RowKit.intOf s202).toNat)
                case atStart => exact ⟨0, Nat.zero_le _, rfl, by rw [List.take_zero, encR_nil]; rfl, HL⟩
                case round => as_aux_lemma =>
                  obtain ⟨jj, hjj, rfl, rfl, HLj⟩ := hrel
                  clear HL
                  by_cases hltj : jj < R'.length
                  · obtain ⟨nbc, mbc, capc, sbc, Bc, ac, hUc, _, _⟩ := HLj.out
                    obtain ⟨Uc, hRc, _⟩ := hUc.rcs
                    obtain ⟨gc, cc, ge, ce, ev, hcc, _, _, _⟩ := hRc.at_ jj hltj
                    obtain ⟨rfl, rfl⟩ : rp = some ⟨gc, 0, none⟩ ∧ rc = cc := by injection ev with a b c; exact ⟨a, c⟩
                    have HE : Hid ((encR (R'.take (jj + 1))).length = (encR (R'.take jj)).length + ((R'[jj]'hltj).length + 2)) := encR_take_succ R' jj hltj
                    have hle : (encR (R'.take jj)).length ≤ 100000 ∧ (R'[jj]'hltj).length ≤ 1000 := by
                      have q1 := hUc.log.sz
                      have q2 := (hUc.log.ok _ (List.getElem_mem hltj)).2
                      have q3 : (encR (R'.take jj)).length ≤ (encR R').length := by rw [encR_split R' jj, List.length_append]; omega
                      have q4 : ringN n = rn := HRn.out
                      exact ⟨by omega, q2⟩
                    clear hUc hRc ev
                    generalize (R'[jj]'hltj).length = le at *
                    generalize (encR (R'.take jj)).length = lt at *
                    go_wp2_with fail
                    exact ⟨⟨jj + 1, by omega, by go_num, by rw [HE.out]; go_num, HLj⟩, by simp [RowKit.intOf]; omega⟩
                  · obtain rfl : jj = R'.length := by omega
                    rw [List.take_length]
                    obtain ⟨nbc, mbc, capc, sbc, Bc, ac, hUc, _, _⟩ := HLj.out
                    have hez : (encR R').length ≤ 100000 := by
                      have q1 := hUc.log.sz
                      have q4 : ringN n = rn := HRn.out
                      omega
                    have HF : Hid (Calls Tryz.prog 23 #[.pointer (some ⟨lbo, 0, none⟩)] _ _) := hUc.fin (i := i) HRn.out rfl rfl (Or.inl rfl) hxb (by omega) hRb
                    clear HLj hUc
                    go_wp2_with fail
                    refine HF.out.mono ?_
                    rintro e wf ⟨rfl, HF2⟩
                    clear HF
                    go_wp2_with fail
                    refine HF2.out.mono ?_
                    rintro e wg ⟨rfl, HN⟩
                    clear HF2
                    go_wp2_with fail
                    exact ⟨⟨i + 1, (encR R').length, x', by omega, by go_num, rfl, rfl, HN⟩, by simp [RowKit.intOf]; omega⟩
              · have hy0 : y' = 0 := by rcases HYx.out with q | q; exact absurd q hyy; exact q
                subst hy0
                have hyn : ((0 : Int) != x' + 1) = true := by simpa using hyy
                clear HYx hyy
                go_wp2_with fail
                go_loopw [12, 202] (fun s12 s202 wl => ∃ jj : Nat, jj ≤ R'.length ∧ s202 = .int .i64 jj ∧ s12 = .int .i64 ((encR (R'.take jj)).length : Int) ∧ Hid (LaC n (fun i => i = wr.heap.size) w wA wl dbc lbo (.slice rp R'.length rc) u10 (.slice none 0 0) R' R [] x' (0))) (fun _ s202 _ => R'.length - (RowKit.intOf s202).toNat)
                case atStart => exact ⟨0, Nat.zero_le _, rfl, by rw [List.take_zero, encR_nil]; rfl, HL⟩
                case round => as_aux_lemma =>
                  obtain ⟨jj, hjj, rfl, rfl, HLj⟩ := hrel
                  clear HL
                  by_cases hltj : jj < R'.length
                  · obtain ⟨nbc, mbc, capc, sbc, Bc, ac, hUc, _, _⟩ := HLj.out
                    obtain ⟨Uc, hRc, _⟩ := hUc.rcs
                    obtain ⟨gc, cc, ge, ce, ev, hcc, _, _, _⟩ := hRc.at_ jj hltj
                    obtain ⟨rfl, rfl⟩ : rp = some ⟨gc, 0, none⟩ ∧ rc = cc := by injection ev with a b c; exact ⟨a, c⟩
                    have HE : Hid ((encR (R'.take (jj + 1))).length = (encR (R'.take jj)).length + ((R'[jj]'hltj).length + 2)) := encR_take_succ R' jj hltj
                    have hle : (encR (R'.take jj)).length ≤ 100000 ∧ (R'[jj]'hltj).length ≤ 1000 := by
                      have q1 := hUc.log.sz
                      have q2 := (hUc.log.ok _ (List.getElem_mem hltj)).2
                      have q3 : (encR (R'.take jj)).length ≤ (encR R').length := by rw [encR_split R' jj, List.length_append]; omega
                      have q4 : ringN n = rn := HRn.out
                      exact ⟨by omega, q2⟩
                    clear hUc hRc ev
                    generalize (R'[jj]'hltj).length = le at *
                    generalize (encR (R'.take jj)).length = lt at *
                    go_wp2_with fail
                    exact ⟨⟨jj + 1, by omega, by go_num, by rw [HE.out]; go_num, HLj⟩, by simp [RowKit.intOf]; omega⟩
                  · obtain rfl : jj = R'.length := by omega
                    rw [List.take_length]
                    obtain ⟨nbc, mbc, capc, sbc, Bc, ac, hUc, _, _⟩ := HLj.out
                    have hez : (encR R').length ≤ 100000 := by
                      have q1 := hUc.log.sz
                      have q4 : ringN n = rn := HRn.out
                      omega
                    have HF : Hid (Calls Tryz.prog 23 #[.pointer (some ⟨lbo, 0, none⟩)] _ _) := hUc.fin (i := i) HRn.out rfl rfl (Or.inr rfl) hxb (by omega) hRb
                    clear HLj hUc
                    go_wp2_with fail
                    refine HF.out.mono ?_
                    rintro e wf ⟨rfl, HF2⟩
                    clear HF
                    go_wp2_with fail
                    refine HF2.out.mono ?_
                    rintro e wg ⟨rfl, HN⟩
                    clear HF2
                    go_wp2_with fail
                    exact ⟨⟨i + 1, (encR R').length, x', by omega, by go_num, rfl, rfl, HN⟩, by simp [RowKit.intOf]; omega⟩
        · by_cases hk2 : kd = 2
          · subst hk2
            clear hk0 hk1
            have HD : Hid (CutD w.heap.size n (fun i => i = wr.heap.size) w (wr.alloc (.cells #[.int .i64 2, .int .i64 N, .int .u8 x.toNat, .slice ka kl kc] 33)) (wr.alloc (.cells #[.int .i64 2, .int .i64 N, .int .u8 x.toNat, .slice ka kl kc] 33)) db nb cap u10 R (fun R' x' y' => R' = R ∧ x' = ar ∧ y' = y)) := HS.out.1.cutoff (by omega)
            have HU : Hid (y = ar + 1 ∨ y = 0) := HS.out.2.2
            have HCr : Hid (Calls Tryz.prog 21 #[.pointer (some ⟨db, 0, none⟩), .slice ka kl kc] (wr.alloc (.cells #[.int .i64 2, .int .i64 N, .int .u8 x.toNat, .slice ka kl kc] 33)) _) := HD.out.chain (Vm := u10) (Rm := R) (by obtain ⟨_, _, _, _, _, _, _, _, h3, _⟩ := HD.out; exact h3) kc HK.out
            have HTT : Hid (∀ R' x' y', (R' = R ∧ x' = ar ∧ y' = y) → ((R' = R ∧ x' = ar) ∨ (R' = R ∧ x' = ar)) ∧ (y' = x' + 1 ∨ y' = 0) ∧ (-1000000 ≤ x' ∧ x' ≤ 1000000) ∧ R'.length ≤ i + 1) := by
              rintro R' x' y' ⟨rfl, rfl, rfl⟩
              exact ⟨Or.inl ⟨rfl, rfl⟩, HU.out, har, by omega⟩
            have v3x := v3
            obtain ⟨wA, hwA⟩ : ∃ wA, wA = wr.alloc (.cells #[.int .i64 2, .int .i64 N, .int .u8 x.toNat, .slice ka kl kc] 33) := ⟨_, rfl⟩
            rw [← hwA] at HCr
            have HwA : Hid (wA = wr.alloc (.cells #[.int .i64 2, .int .i64 N, .int .u8 x.toNat, .slice ka kl kc] 33)) := hwA
            clear HS HD hwA
            go_wp2_with fail
            rw [← HwA.out]
            clear d0 d1 d2 d3 v0 v1 v2 v3 HwA hoA
            refine HCr.out.mono ?_
            rintro e wc ⟨dbc, R', x', y', rfl, HTx, HOp⟩
            obtain ⟨hor, hyx, hxb, hRb⟩ := HTT.out R' x' y' HTx.out
            clear HCr HTx HTT
            go_wp2_with fail
            refine HOp.out.mono ?_
            rintro e wo ⟨lbo, rp, rc, rfl, HAr⟩
            clear HOp
            go_wp2_with fail
            refine HAr.out.mono ?_
            rintro e wb ⟨rfl, HL⟩
            clear HAr v3x
            have HOr : Hid ((R' = R ∧ x' = ar) ∨ (R' = R ∧ x' = ar)) := hor
            clear hor
            have HYx : Hid (y' = x' + 1 ∨ y' = 0) := hyx
            clear hyx
            by_cases eR : R' = R
            · have HR1 : Hid (Calls Tryz.prog 24 #[.slice rp R'.length rc, u10] wb fun e w' => e = .returned (.bool true) ∧ Hid (LaC n (fun i => i = wr.heap.size) w wA w' dbc lbo (.slice rp R'.length rc) u10 u10 R' R R x' y')) := HL.out.rec1 (by omega) true (decide_eq_true eR)
              clear eR HL
              go_wp2_with fail
              refine HR1.out.mono ?_
              rintro e w5 ⟨rfl, HL⟩
              clear HR1
              by_cases ex : x' = ar
              · have exb : (x' == ar) = true := by rw [ex]; exact beq_self_eq_true _
                clear HOr
                obtain rfl := ex
                by_cases hyy : y' = x' + 1
                · subst hyy
                  clear HYx
                  go_wp2_with fail
                  go_loopw [12, 202] (fun s12 s202 wl => ∃ jj : Nat, jj ≤ R'.length ∧ s202 = .int .i64 jj ∧ s12 = .int .i64 ((encR (R'.take jj)).length : Int) ∧ Hid (LaC n (fun i => i = wr.heap.size) w wA wl dbc lbo (.slice rp R'.length rc) u10 u10 R' R R x' (x' + 1))) (fun _ s202 _ => R'.length - (RowKit.intOf s202).toNat)
                  case atStart => exact ⟨0, Nat.zero_le _, rfl, by rw [List.take_zero, encR_nil]; rfl, HL⟩
                  case round => as_aux_lemma =>
                    obtain ⟨jj, hjj, rfl, rfl, HLj⟩ := hrel
                    clear HL
                    by_cases hltj : jj < R'.length
                    · obtain ⟨nbc, mbc, capc, sbc, Bc, ac, hUc, _, _⟩ := HLj.out
                      obtain ⟨Uc, hRc, _⟩ := hUc.rcs
                      obtain ⟨gc, cc, ge, ce, ev, hcc, _, _, _⟩ := hRc.at_ jj hltj
                      obtain ⟨rfl, rfl⟩ : rp = some ⟨gc, 0, none⟩ ∧ rc = cc := by injection ev with a b c; exact ⟨a, c⟩
                      have HE : Hid ((encR (R'.take (jj + 1))).length = (encR (R'.take jj)).length + ((R'[jj]'hltj).length + 2)) := encR_take_succ R' jj hltj
                      have hle : (encR (R'.take jj)).length ≤ 100000 ∧ (R'[jj]'hltj).length ≤ 1000 := by
                        have q1 := hUc.log.sz
                        have q2 := (hUc.log.ok _ (List.getElem_mem hltj)).2
                        have q3 : (encR (R'.take jj)).length ≤ (encR R').length := by rw [encR_split R' jj, List.length_append]; omega
                        have q4 : ringN n = rn := HRn.out
                        exact ⟨by omega, q2⟩
                      clear hUc hRc ev
                      generalize (R'[jj]'hltj).length = le at *
                      generalize (encR (R'.take jj)).length = lt at *
                      go_wp2_with fail
                      exact ⟨⟨jj + 1, by omega, by go_num, by rw [HE.out]; go_num, HLj⟩, by simp [RowKit.intOf]; omega⟩
                    · obtain rfl : jj = R'.length := by omega
                      rw [List.take_length]
                      obtain ⟨nbc, mbc, capc, sbc, Bc, ac, hUc, _, _⟩ := HLj.out
                      have hez : (encR R').length ≤ 100000 := by
                        have q1 := hUc.log.sz
                        have q4 : ringN n = rn := HRn.out
                        omega
                      have HF : Hid (Calls Tryz.prog 23 #[.pointer (some ⟨lbo, 0, none⟩)] _ _) := hUc.fin (i := i) HRn.out rfl rfl (Or.inl rfl) hxb (by omega) hRb
                      clear HLj hUc
                      go_wp2_with fail
                      refine HF.out.mono ?_
                      rintro e wf ⟨rfl, HF2⟩
                      clear HF
                      go_wp2_with fail
                      refine HF2.out.mono ?_
                      rintro e wg ⟨rfl, HN⟩
                      clear HF2
                      go_wp2_with fail
                      exact ⟨⟨i + 1, (encR R').length, x', by omega, by go_num, rfl, rfl, HN⟩, by simp [RowKit.intOf]; omega⟩
                · have hy0 : y' = 0 := by rcases HYx.out with q | q; exact absurd q hyy; exact q
                  subst hy0
                  have hyn : ((0 : Int) != x' + 1) = true := by simpa using hyy
                  clear HYx hyy
                  go_wp2_with fail
                  go_loopw [12, 202] (fun s12 s202 wl => ∃ jj : Nat, jj ≤ R'.length ∧ s202 = .int .i64 jj ∧ s12 = .int .i64 ((encR (R'.take jj)).length : Int) ∧ Hid (LaC n (fun i => i = wr.heap.size) w wA wl dbc lbo (.slice rp R'.length rc) u10 u10 R' R R x' (0))) (fun _ s202 _ => R'.length - (RowKit.intOf s202).toNat)
                  case atStart => exact ⟨0, Nat.zero_le _, rfl, by rw [List.take_zero, encR_nil]; rfl, HL⟩
                  case round => as_aux_lemma =>
                    obtain ⟨jj, hjj, rfl, rfl, HLj⟩ := hrel
                    clear HL
                    by_cases hltj : jj < R'.length
                    · obtain ⟨nbc, mbc, capc, sbc, Bc, ac, hUc, _, _⟩ := HLj.out
                      obtain ⟨Uc, hRc, _⟩ := hUc.rcs
                      obtain ⟨gc, cc, ge, ce, ev, hcc, _, _, _⟩ := hRc.at_ jj hltj
                      obtain ⟨rfl, rfl⟩ : rp = some ⟨gc, 0, none⟩ ∧ rc = cc := by injection ev with a b c; exact ⟨a, c⟩
                      have HE : Hid ((encR (R'.take (jj + 1))).length = (encR (R'.take jj)).length + ((R'[jj]'hltj).length + 2)) := encR_take_succ R' jj hltj
                      have hle : (encR (R'.take jj)).length ≤ 100000 ∧ (R'[jj]'hltj).length ≤ 1000 := by
                        have q1 := hUc.log.sz
                        have q2 := (hUc.log.ok _ (List.getElem_mem hltj)).2
                        have q3 : (encR (R'.take jj)).length ≤ (encR R').length := by rw [encR_split R' jj, List.length_append]; omega
                        have q4 : ringN n = rn := HRn.out
                        exact ⟨by omega, q2⟩
                      clear hUc hRc ev
                      generalize (R'[jj]'hltj).length = le at *
                      generalize (encR (R'.take jj)).length = lt at *
                      go_wp2_with fail
                      exact ⟨⟨jj + 1, by omega, by go_num, by rw [HE.out]; go_num, HLj⟩, by simp [RowKit.intOf]; omega⟩
                    · obtain rfl : jj = R'.length := by omega
                      rw [List.take_length]
                      obtain ⟨nbc, mbc, capc, sbc, Bc, ac, hUc, _, _⟩ := HLj.out
                      have hez : (encR R').length ≤ 100000 := by
                        have q1 := hUc.log.sz
                        have q4 : ringN n = rn := HRn.out
                        omega
                      have HF : Hid (Calls Tryz.prog 23 #[.pointer (some ⟨lbo, 0, none⟩)] _ _) := hUc.fin (i := i) HRn.out rfl rfl (Or.inr rfl) hxb (by omega) hRb
                      clear HLj hUc
                      go_wp2_with fail
                      refine HF.out.mono ?_
                      rintro e wf ⟨rfl, HF2⟩
                      clear HF
                      go_wp2_with fail
                      refine HF2.out.mono ?_
                      rintro e wg ⟨rfl, HN⟩
                      clear HF2
                      go_wp2_with fail
                      exact ⟨⟨i + 1, (encR R').length, x', by omega, by go_num, rfl, rfl, HN⟩, by simp [RowKit.intOf]; omega⟩
              · have exb : (x' == ar) = false := by rw [beq_eq_false_iff_ne]; exact ex
                have ho : R' = R ∧ x' = ar := by
                  rcases HOr.out with q | q
                  · exact absurd q.2 ex
                  · exact q
                clear HOr
                exact absurd ho.2 ex
            · have HR1 : Hid (Calls Tryz.prog 24 #[.slice rp R'.length rc, u10] wb fun e w' => e = .returned (.bool false) ∧ Hid (LaC n (fun i => i = wr.heap.size) w wA w' dbc lbo (.slice rp R'.length rc) u10 u10 R' R R x' y')) := HL.out.rec1 (by omega) false (decide_eq_false eR)
              have ho : R' = R ∧ x' = ar := by
                rcases HOr.out with q | q
                · exact absurd q.1 eR
                · exact q
              exact absurd ho.1 eR
          · skip
            have hN9 := rem_any N 9 (by omega)
            have hkk0 : (kd == 0) = false := by rw [beq_eq_false_iff_ne]; exact hk0
            have hkk1 : (kd == 1) = false := by rw [beq_eq_false_iff_ne]; exact hk1
            have hkk2 : (kd == 2) = false := by rw [beq_eq_false_iff_ne]; exact hk2
            clear hk0 hk1 hk2
            go_wp2_with fail
            clear d0 d1 d2 d3 v0 v1 v2 v3
            generalize wr.alloc (.cells #[.int .i64 kd, .int .i64 N, .int .u8 x.toNat, .slice ka kl kc] 33) = wA at HS hoA ⊢
            have HFu : Hid (∀ ff, ff ≤ 9223372036854775807 → Calls Tryz.prog 20 #[.pointer (some ⟨db, 0, none⟩), .int .i64 ff] wA fun e w' => e = .returned (.tuple #[]) ∧ ∃ left' down', CutU w.heap.size n (fun i => i = wr.heap.size) w wA w' db nb mb cap k lb sb B left' down' u10 a R R ar y) := by
              intro ff hff
              have hS := HS.out.1
              cases hdv : down
              · rw [hdv] at hS
                have h5 := hS.ne
                have h6 := hS.nl
                refine (fuse_any hS.d ff hff).mono ?_
                rintro e w4 ⟨rfl, hd4, hk4⟩
                exact ⟨rfl, _, _, hS.turn (hk4.mono (fun i e => Or.inl e)) (Or.inl rfl) hd4 (hS.l.keeps hk4 (by omega)) (hS.s.keeps hk4 (by omega)) hS.log⟩
              · rw [hdv] at hS
                refine (fuse_down hS.d.c3 ff).mono ?_
                rintro e w4 ⟨rfl, rfl⟩
                exact ⟨rfl, _, _, hS⟩
            have HU : Hid ((encR R).length = u ∧ (y = ar + 1 ∨ y = 0)) := HS.out.2
            clear HS
            refine (HFu.out _ (by omega)).mono ?_
            rintro e w5 ⟨rfl, left5, down5, hS5⟩
            have HF : Hid (Calls Tryz.prog 23 #[.pointer (some ⟨lb, 0, none⟩)] _ _) := hS5.fin (i := i) (ue := (u : Int)) HRn.out rfl HU.out.1 HU.out.2 har (by omega) (by omega)
            clear HFu hS5
            go_wp2_with fail
            refine HF.out.mono ?_
            rintro e wf ⟨rfl, HF2⟩
            clear HF
            go_wp2_with fail
            refine HF2.out.mono ?_
            rintro e wg ⟨rfl, HN⟩
            clear HF2
            go_wp2_with fail
            exact ⟨⟨i + 1, u, ar, by omega, by go_num, rfl, rfl, HN⟩, by simp [RowKit.intOf]; omega⟩
    · obtain ⟨db, nb, mb, cap, k, lb, sb, B, left, down, a, R, y, rfl, rfl, hS, hu, hy, har, hk, hRl⟩ := HI.out
      have hbr := hS.bel
      clear HI hS hu hy
      rcases (show om ≤ i ∨ (i < om ∧ 30 ≤ i) by omega) with hex | ⟨hex1, hex2⟩
      all_goals
        go_wp2_with fail
        go_ret
        exact ⟨rfl, hbr⟩
end Go.Proofs.YtlmdeafmlommeaaGreatDoor
