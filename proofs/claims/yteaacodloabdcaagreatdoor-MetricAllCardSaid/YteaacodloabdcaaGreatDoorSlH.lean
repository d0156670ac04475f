import Derived.Test.YteaacodloabdcaaGreatDoorSlE
import Derived.Test.YteaacodloabdcaaGreatDoorAllA
import Derived.Deep.QuietTactic
import Derived.BigQuiet
namespace Go.Proofs.YteaacodloabdcaaGreatDoor
open Go.RowKit

/-- The map behind a write. -/
def wput (D : DataW Unit) (i : Nat) (s : List UInt8) : DataW Unit := if Maps.has D (.int .i64 i) = true then D else D.put (.int .i64 i) (.lit (.string s))
theorem write_okv {w : World} {db nb mb n cap : Nat} {B : List UInt8} {k : Nat} {D : DataW Unit} {left : Int} (h : DevAt w db nb mb n cap B k D left false) (v : Int) (i : Nat) (hv : v = (i : Int)) (hi : i < n) (s : List UInt8) (hs : s.length = 64) (sb so sc : Nat) (hsrc : w.rangeAt sb so (bytesV s)) (hsm : sb ≠ mb) (hk : k ≤ 1000000) :
    Calls Tryz.prog 154 #[.pointer (some ⟨db, 0, none⟩), .int .i64 v, .slice (some ⟨sb, so, none⟩) 64 sc] w fun e w' => ∃ k', k' ≤ k + 1 ∧ e = .returned (.int .i64 0) ∧
      DevAt w' db nb mb n cap (put B i s) k' (wput D i (sec B i)) (burnL left) (burnD left false) ∧ Keeps (fun j => j = db ∨ j = nb ∨ j = mb) w w' := by
  subst hv
  unfold wput
  cases hh : Maps.has D (.int .i64 i)
  · rw [if_neg (by decide)]
    refine (write_new h i hi s hs sb so sc hsrc hsm (by unfold maxLen; omega) hh).mono ?_
    rintro e w' ⟨rfl, h2, h3⟩
    exact ⟨k + 1, Nat.le_refl _, rfl, h2, h3⟩
  · rw [if_pos rfl]
    refine (write_loose h i hi s hs sb so sc hsrc hh).mono ?_
    rintro e w' ⟨rfl, h2, h3⟩
    exact ⟨k, Nat.le_succ _, rfl, h2, h3⟩
/-- What a save leaves. -/
def SaveO (B : List UInt8) (D : DataW Unit) (left : Int) (down : Bool) (A : List Int) (code : Int) (B' : List UInt8) (D' : DataW Unit) (left' : Int) (down' : Bool) : Prop :=
  (down = true ∧ code = 9 ∧ B' = B ∧ D' = D ∧ left' = left ∧ down' = down) ∨
  (down = false ∧ burnD left false = true ∧ code = 9 ∧ B' = put B (1 - (newestOf (sec B 0) (sec B 1)).1) (secOf (afterT (turnOf (newestOf (sec B 0) (sec B 1)).2)) A) ∧ D' = wput D (1 - (newestOf (sec B 0) (sec B 1)).1) (sec B (1 - (newestOf (sec B 0) (sec B 1)).1)) ∧ left' = burnL left ∧ down' = true) ∨
  (down = false ∧ burnD left false = false ∧ code = 0 ∧ B' = put B (1 - (newestOf (sec B 0) (sec B 1)).1) (secOf (afterT (turnOf (newestOf (sec B 0) (sec B 1)).2)) A) ∧ D' = .map [] ∧ left' = burnL (burnL left) ∧ down' = burnD (burnL left) false)
def SaveP (db nb mb n cap : Nat) (B : List UInt8) (k : Nat) (D : DataW Unit) (left : Int) (down : Bool) (A : List Int) (w : World) (e : Ending) (w' : World) : Prop :=
  ∃ code mb' k' B' D' left' down', e = .returned (.int .i64 code) ∧ DevAt w' db nb mb' n cap B' k' D' left' down' ∧ k' ≤ k + 1 ∧ (mb' = mb ∨ w.heap.size ≤ mb') ∧ Keeps (fun x => x = db ∨ x = nb ∨ x = mb) w w' ∧ SaveO B D left down A code B' D' left' down'

set_option maxRecDepth 100000 in
set_option maxHeartbeats 1000000 in
theorem save_at {w : World} {db nb mb n cap : Nat} {B : List UInt8} {k : Nat} {D : DataW Unit} {left : Int} {down : Bool} (h : DevAt w db nb mb n cap B k D left down) (hk : k ≤ 1000000) (ka : Option Addr) (kc : Nat) (A : List Int) (hl : A.length ≤ 4) (hA : IntsAt w w.heap.size ka A.length A) :
    Calls Tryz.prog 117 #[.pointer (some ⟨db, 0, none⟩), .slice ka A.length kc] w (SaveP db nb mb n cap B k D left down A w) := by
  have hn1 := h.n1
  have hat := newestOf_at (sec B 0) (sec B 1)
  have htb := turnOf_bound (sec B 0) (sec B 1)
  go_enter Tryz.func117, Tryz.ntmps117
  go_wp2_with fail
  refine (newest_at h (by omega)).mono ?_
  rintro e w1 ⟨hb1, cv, ok, rfl, hN, hS⟩
  obtain ⟨t, ka1, kl1, kc1, rfl, ht⟩ : ∃ t ka1 kl1 kc1, cv = .agg #[.int .i64 t, .slice ka1 kl1 kc1] ∧ t = turnOf (newestOf (sec B 0) (sec B 1)).2 := by
    cases hx : (newestOf (sec B 0) (sec B 1)).2 with
    | none => obtain ⟨_, rfl⟩ := hN hx; exact ⟨0, none, 0, 0, rfl, rfl⟩
    | some c => obtain ⟨t, ns⟩ := c; obtain ⟨_, ka1, kc1, rfl, _⟩ := hS t ns hx; exact ⟨t, ka1, ns.length, kc1, rfl, rfl⟩
  clear hN hS
  have HO : Hid (∀ at_ tt, (newestOf (sec B 0) (sec B 1)).1 = at_ → turnOf (newestOf (sec B 0) (sec B 1)).2 = tt → ∀ code B' D' left' down', ((down = true ∧ code = 9 ∧ B' = B ∧ D' = D ∧ left' = left ∧ down' = down) ∨ (down = false ∧ burnD left false = true ∧ code = 9 ∧ B' = put B (1 - at_) (secOf (afterT tt) A) ∧ D' = wput D (1 - at_) (sec B (1 - at_)) ∧ left' = burnL left ∧ down' = true) ∨ (down = false ∧ burnD left false = false ∧ code = 0 ∧ B' = put B (1 - at_) (secOf (afterT tt) A) ∧ D' = .map [] ∧ left' = burnL (burnL left) ∧ down' = burnD (burnL left) false)) → SaveO B D left down A code B' D' left' down') := by
    rintro at_ tt rfl rfl code B' D' left' down' hh
    exact hh
  subst ht
  generalize hA1 : (newestOf (sec B 0) (sec B 1)).1 = at_ at hat ⊢
  generalize hT1 : turnOf (newestOf (sec B 0) (sec B 1)).2 = tt at htb ⊢
  have HO2 : Hid _ := HO.out at_ tt hA1 hT1
  clear HO hA1 hT1
  have hbV : Below w1.heap.size w1 (w1.alloc (.cells #[.int .i64 tt, .slice ka1 kl1 kc1] 172)) := (Below.refl _ w1).alloc (Nat.le_refl _) _
  have hsV : (w1.alloc (.cells #[.int .i64 tt, .slice ka1 kl1 kc1] 172)).heap.size = w1.heap.size + 1 := by simp
  have hs1 := hb1.size
  go_wp2_with fail
  generalize w1.alloc (.cells #[.int .i64 tt, .slice ka1 kl1 kc1] 172) = wV at hbV hsV ⊢
  have hbwV : Below w.heap.size w wV := hb1.trans (hbV.mono hs1)
  refine (after_at tt htb.1 htb.2 wV).mono ?_
  rintro e w2 ⟨rfl, hw2⟩
  subst hw2
  have hfine : Fine (afterT tt) A := ⟨(afterT_fine tt).1, (afterT_fine tt).2, hl, hA.fit⟩
  have hA2 := (hA.below hbwV).up (show w.heap.size ≤ w2.heap.size from hbwV.size)
  go_wp2_with fail
  refine (sector_at (afterT tt) A hfine ka kc w2 hA2).mono ?_
  rintro e w3 ⟨g3, rfl, p1, p2, p3, hb23⟩
  have hbw3 : Below w.heap.size w w3 := hbwV.trans (hb23.mono hbwV.size)
  have h3 := h.keeps (Keeps.of_below (S := fun _ => False) hbw3) (fun e => e) (fun e => e) (fun e => e)
  have hl3 := secOf_len hfine
  have hmlt := h.mlt
  have hws := hbwV.size
  clear hA hA2 hb1 hbV hb23 h
  generalize secOf (afterT tt) A = sn at p3 hl3 HO2
  cases down
  · go_wp2_with fail
    refine (write_okv h3 (1 - (at_ : Int)) (1 - at_) (by omega) (by omega) sn hl3 g3 0 64 p3 (by omega) hk).mono ?_
    rintro e w4 ⟨k', hk', rfl, h4, hk4⟩
    have hK4 : Keeps (fun x => x = db ∨ x = nb ∨ x = mb) w w4 := (Keeps.of_below hbw3).trans hk4
    have hs4 := hK4.size
    cases hdn : burnD left false
    · rw [hdn] at h4
      have HD : Hid (burnD left false = false) := hdn
      clear hdn h3 hk4
      go_wp2_with fail
      refine (flush_any h4).mono ?_
      rintro e w5 ⟨rfl, h5, hk5⟩
      have HF : Hid (SaveP db nb mb n cap B k D left false A w (.returned (.int .i64 0)) w5) := ⟨0, w4.heap.size, 0, _, _, _, _, rfl, h5, by omega, Or.inr (by omega), hK4.trans (hk5.mono (fun x e => Or.inl e)), HO2.out _ _ _ _ _ (Or.inr (Or.inr ⟨by trivial, HD.out, rfl, rfl, rfl, rfl, rfl⟩))⟩
      clear h4 h5 hk5 HO2 hK4 HD
      go_wp2_with fail
      go_ret
      exact HF.out
    · rw [hdn] at h4
      have HD : Hid (burnD left false = true) := hdn
      have HF : Hid (SaveP db nb mb n cap B k D left false A w (.returned (.int .i64 9)) w4) := ⟨9, mb, k', _, _, _, _, rfl, h4, hk', Or.inl rfl, hK4, HO2.out _ _ _ _ _ (Or.inr (Or.inl ⟨by trivial, HD.out, rfl, rfl, rfl, rfl, rfl⟩))⟩
      have c3 := h4.c3
      clear hdn h3 hk4 h4 HO2 hK4
      go_wp2_with fail
      refine (flush_down c3).mono ?_
      rintro e w5 ⟨rfl, hw5⟩
      subst hw5
      go_wp2_with fail
      go_ret
      exact HF.out
  · have c3 := h3.c3
    have HF : Hid (SaveP db nb mb n cap B k D left true A w (.returned (.int .i64 9)) w3) := ⟨9, mb, k, _, _, _, _, rfl, h3, by omega, Or.inl rfl, Keeps.of_below hbw3, HO2.out _ _ _ _ _ (Or.inl ⟨rfl, rfl, rfl, rfl, rfl, rfl⟩)⟩
    clear HO2 h3 hbw3 p3
    go_wp2_with fail
    refine (write_down c3 _ _).mono ?_
    rintro e w4 ⟨rfl, hw4⟩
    subst hw4
    go_wp2_with fail
    go_ret
    exact HF.out
end Go.Proofs.YteaacodloabdcaaGreatDoor

namespace Go.Proofs.YteaacodloabdcaaGreatDoor
open Go.RowKit

/-- A Slots in memory. -/
structure SlAt (w : World) (sb db : Nat) (over : Bool) : Prop where
  c0 : w.cell? ⟨sb, 0, none⟩ = some (.pointer (some ⟨db, 0, none⟩))
  c1 : w.cell? ⟨sb, 1, none⟩ = some (.bool over)
  f : ∀ o, w.frozen? ⟨sb, o, none⟩ = false
theorem SlAt.lt {w : World} {sb db : Nat} {over : Bool} (h : SlAt w sb db over) : sb < w.heap.size := World.block_lt_of_cell? w _ h.c0
theorem SlAt.keeps {S : Nat → Prop} {w w' : World} {sb db : Nat} {over : Bool} (h : SlAt w sb db over) (hk : Keeps S w w') (hs : ¬ S sb) : SlAt w' sb db over :=
  ⟨(hk.cell (p := ⟨sb, 0, none⟩) h.lt hs).trans h.c0, (hk.cell (p := ⟨sb, 1, none⟩) h.lt hs).trans h.c1, fun o => (hk.frozen (p := ⟨sb, o, none⟩) h.lt hs).trans (h.f o)⟩
theorem sl_new (w : World) (db : Nat) : SlAt (w.alloc (.cells #[.pointer (some ⟨db, 0, none⟩), .bool false] 170)) w.heap.size db false := by
  have h := heap_alloc_last w (.cells #[.pointer (some ⟨db, 0, none⟩), .bool false] 170)
  exact ⟨by rw [cell_of_row _ _ 0 _ 170 (0, 0) h]; rfl, by rw [cell_of_row _ _ 1 _ 170 (0, 0) h]; rfl, fun o => by unfold World.frozen?; rw [h]; simp⟩
def MakeO (B : List UInt8) (D : DataW Unit) (left : Int) (down : Bool) (A : List Int) (code : Int) (B' : List UInt8) (D' : DataW Unit) (left' : Int) (down' : Bool) : Prop :=
  ∃ code1 B1 D1 left1 down1, SaveO B D left down A code1 B1 D1 left1 down1 ∧ ((code1 ≠ 0 ∧ code = code1 ∧ B' = B1 ∧ D' = D1 ∧ left' = left1 ∧ down' = down1) ∨ (code1 = 0 ∧ SaveO B1 D1 left1 down1 A code B' D' left' down'))
def MakeP (db nb mb n cap : Nat) (B : List UInt8) (k : Nat) (D : DataW Unit) (left : Int) (down : Bool) (A : List Int) (w : World) (e : Ending) (w' : World) : Prop :=
  ∃ code pv mb' k' B' D' left' down', e = .returned (.tuple #[.pointer pv, .int .i64 code]) ∧ DevAt w' db nb mb' n cap B' k' D' left' down' ∧ k' ≤ k + 2 ∧ (mb' = mb ∨ w.heap.size ≤ mb') ∧ Keeps (fun x => x = db ∨ x = nb ∨ x = mb) w w' ∧ MakeO B D left down A code B' D' left' down' ∧ (code ≠ 0 → pv = none) ∧ (code = 0 → ∃ sb, pv = some ⟨sb, 0, none⟩ ∧ w.heap.size ≤ sb ∧ SlAt w' sb db false ∧ sb ≠ db ∧ sb ≠ nb ∧ sb ≠ mb')

theorem Keeps.trans2 {S S' : Nat → Prop} {a b c : World} (h : Keeps S a b) (k : Keeps S' b c) (hS : ∀ x, S' x → S x ∨ a.heap.size ≤ x) : Keeps S a c :=
  ⟨k.os.trans h.os, k.tape.trans h.tape, k.output.trans h.output, Nat.le_trans h.size k.size, fun i hi hs => (k.block i (Nat.lt_of_lt_of_le hi h.size) (fun x => (hS i x).elim hs (fun y => by omega))).trans (h.block i hi hs)⟩
/-- Make's loop. -/
def MkI (db nb mb n cap : Nat) (B : List UInt8) (k : Nat) (D : DataW Unit) (left : Int) (down : Bool) (A : List Int) (w wr : World) (j : Nat) : Prop :=
  ∃ mb' k' B' D' left' down', DevAt wr db nb mb' n cap B' k' D' left' down' ∧ k' ≤ k + j ∧ (mb' = mb ∨ w.heap.size ≤ mb') ∧ Keeps (fun x => x = db ∨ x = nb ∨ x = mb) w wr ∧ ((j = 0 ∧ B' = B ∧ D' = D ∧ left' = left ∧ down' = down) ∨ (j = 1 ∧ SaveO B D left down A 0 B' D' left' down') ∨ (j = 2 ∧ MakeO B D left down A 0 B' D' left' down'))
theorem MkI.save {db nb mb n cap : Nat} {B : List UInt8} {k : Nat} {D : DataW Unit} {left : Int} {down : Bool} {A : List Int} {w wr : World} {j : Nat} (hI : MkI db nb mb n cap B k D left down A w wr j) (hk : k ≤ 1000) (hj : j < 2) (ka : Option Addr) (kc : Nat) (hl : A.length ≤ 4) (hA : IntsAt w w.heap.size ka A.length A) (hda : ∀ b o, ka = some ⟨b, o, none⟩ → A.length ≠ 0 → b ≠ db ∧ b ≠ nb ∧ b ≠ mb) :
    Calls Tryz.prog 117 #[.pointer (some ⟨db, 0, none⟩), .slice ka A.length kc] wr fun e w' => (e = .returned (.int .i64 0) ∧ MkI db nb mb n cap B k D left down A w w' (j + 1)) ∨ (∃ code, e = .returned (.int .i64 code) ∧ code ≠ 0 ∧ MakeP db nb mb n cap B k D left down A w (.returned (.tuple #[.pointer none, .int .i64 code])) w') := by
  obtain ⟨mb1, k1, B1, D1, left1, down1, h1, hk1, hm1, hK1, hc⟩ := hI
  have hA1 : IntsAt wr wr.heap.size ka A.length A := (hA.keep (Nat.le_refl _) hK1 (fun b o e hn x => by have := hda b o e hn; omega)).up hK1.size
  refine (save_at h1 (by omega) ka kc A hl hA1).mono ?_
  rintro e w' ⟨code, mb2, k2, B2, D2, left2, down2, rfl, h2, hk2, hm2, hK2, hO⟩
  have hs1 := hK1.size
  have hK : Keeps (fun x => x = db ∨ x = nb ∨ x = mb) w w' := hK1.trans2 hK2 (fun x e => by omega)
  have hm : mb2 = mb ∨ w.heap.size ≤ mb2 := by omega
  by_cases hz : code = 0
  · subst hz
    refine Or.inl ⟨rfl, mb2, k2, B2, D2, left2, down2, h2, by omega, hm, hK, ?_⟩
    rcases hc with ⟨rfl, rfl, rfl, rfl, rfl⟩ | ⟨rfl, hS⟩ | ⟨rfl, _⟩
    · exact Or.inr (Or.inl ⟨rfl, hO⟩)
    · exact Or.inr (Or.inr ⟨rfl, 0, B1, D1, left1, down1, hS, Or.inr ⟨rfl, hO⟩⟩)
    · omega
  · refine Or.inr ⟨code, rfl, hz, code, none, mb2, k2, B2, D2, left2, down2, rfl, h2, by omega, hm, hK, ?_, fun _ => rfl, fun e => absurd e hz⟩
    rcases hc with ⟨rfl, rfl, rfl, rfl, rfl⟩ | ⟨rfl, hS⟩ | ⟨rfl, _⟩
    · exact ⟨code, B2, D2, left2, down2, hO, Or.inl ⟨hz, rfl, rfl, rfl, rfl, rfl⟩⟩
    · exact ⟨0, B1, D1, left1, down1, hS, Or.inr ⟨rfl, hO⟩⟩
    · omega

set_option maxRecDepth 100000 in
set_option maxHeartbeats 1000000 in
theorem make_at {w : World} {db nb mb n cap : Nat} {B : List UInt8} {k : Nat} {D : DataW Unit} {left : Int} {down : Bool} (h : DevAt w db nb mb n cap B k D left down) (hk : k ≤ 1000) (ka : Option Addr) (kc : Nat) (A : List Int) (hl : A.length ≤ 4) (hA : IntsAt w w.heap.size ka A.length A) (hda : ∀ b o, ka = some ⟨b, o, none⟩ → A.length ≠ 0 → b ≠ db ∧ b ≠ nb ∧ b ≠ mb) :
    Calls Tryz.prog 80 #[.pointer (some ⟨db, 0, none⟩), .slice ka A.length kc] w (MakeP db nb mb n cap B k D left down A w) := by
  go_enter Tryz.func80, Tryz.ntmps80
  go_wp2_with fail
  have hI0 : MkI db nb mb n cap B k D left down A w w 0 := ⟨mb, k, B, D, left, down, h, Nat.le_refl _, Or.inl rfl, Keeps.refl _ _, Or.inl ⟨rfl, rfl, rfl, rfl, rfl⟩⟩
  have HA : Hid (IntsAt w w.heap.size ka A.length A ∧ (∀ b o, ka = some ⟨b, o, none⟩ → A.length ≠ 0 → b ≠ db ∧ b ≠ nb ∧ b ≠ mb)) := ⟨hA, hda⟩
  have hdl := h.dlt
  have hnl := h.nlt
  clear hA hda h
  go_loopw [10] (fun s10 wr => ∃ j : Nat, j ≤ 2 ∧ s10 = .int .i64 j ∧ MkI db nb mb n cap B k D left down A w wr j) (fun s10 _ => 2 - (RowKit.intOf s10).toNat)
  case atStart => exact ⟨0, by omega, rfl, hI0⟩
  case round =>
    obtain ⟨j, hj, rfl, hI⟩ := hrel
    clear hI0
    by_cases hlt : j < 2
    · go_wp2_with fail
      refine (hI.save hk hlt ka kc hl HA.out.1 HA.out.2).mono ?_
      rintro e w2 (⟨rfl, hI2⟩ | ⟨code, rfl, hz, hP⟩)
      · have HI2 : Hid (MkI db nb mb n cap B k D left down A w w2 (j + 1)) := hI2
        clear hI2 hI
        go_wp2_with fail
        go_roundw
        case rel => exact ⟨j + 1, by omega, by go_num, HI2.out⟩
        case measure => simp [RowKit.intOf]; omega
      · have HP : Hid (MakeP db nb mb n cap B k D left down A w (.returned (.tuple #[.pointer none, .int .i64 code])) w2) := hP
        have hz' : (code != 0) = true := by simp [hz]
        clear hP hI hz
        go_wp2_with fail
        go_ret2
        exact HP.out
    · have hj2 : j = 2 := by omega
      subst hj2
      obtain ⟨mb1, k1, B1, D1, left1, down1, h1, hk1, hm1, hK1, hc⟩ := hI
      have hO : MakeO B D left down A 0 B1 D1 left1 down1 := by
        rcases hc with ⟨e, _⟩ | ⟨e, _⟩ | ⟨_, h⟩
        · omega
        · omega
        · exact h
      have hb := (Below.refl wr.heap.size wr).alloc (Nat.le_refl _) (.cells #[.pointer (some ⟨db, 0, none⟩), .bool false] 170)
      have hs1 := hK1.size
      have hml := h1.mlt
      have HP : Hid (MakeP db nb mb n cap B k D left down A w (.returned (.tuple #[.pointer (some ⟨wr.heap.size, 0, none⟩), .int .i64 0])) (wr.alloc (.cells #[.pointer (some ⟨db, 0, none⟩), .bool false] 170))) :=
        ⟨0, _, mb1, k1, B1, D1, left1, down1, rfl, h1.keeps (Keeps.of_below (S := fun _ => False) hb) (fun e => e) (fun e => e) (fun e => e), hk1, hm1, hK1.alloc _, hO, fun e => absurd rfl e, fun _ => ⟨wr.heap.size, rfl, by omega, sl_new wr db, by omega, by omega, by omega⟩⟩
      clear h1 hc hO hb
      go_wp2_with fail
      go_ret2
      exact HP.out
theorem set_over {w : World} {sb db : Nat} (h : SlAt w sb db true) (v : Value) : Calls Tryz.prog 81 #[.pointer (some ⟨sb, 0, none⟩), v] w fun e w' => e = .returned (.int .i64 9) ∧ w' = w := by
  have c1 := h.c1
  go_enter Tryz.func81, Tryz.ntmps81
  go_wp2_with fail
  go_ret
  exact ⟨rfl, rfl⟩
theorem set_long {w : World} {sb db : Nat} (h : SlAt w sb db false) (ka : Option Addr) (kn kc : Nat) (hl : 4 < kn) : Calls Tryz.prog 81 #[.pointer (some ⟨sb, 0, none⟩), .slice ka kn kc] w fun e w' => e = .returned (.int .i64 1) ∧ w' = w := by
  have c1 := h.c1
  have c0 := h.c0
  go_enter Tryz.func81, Tryz.ntmps81
  go_wp2_with fail
  go_ret
  exact ⟨rfl, rfl⟩
def SetP (sb db nb mb n cap : Nat) (B : List UInt8) (k : Nat) (D : DataW Unit) (left : Int) (down : Bool) (A : List Int) (w : World) (e : Ending) (w' : World) : Prop :=
  ∃ code mb' k' B' D' left' down', e = .returned (.int .i64 code) ∧ DevAt w' db nb mb' n cap B' k' D' left' down' ∧ k' ≤ k + 1 ∧ (mb' = mb ∨ w.heap.size ≤ mb') ∧ Keeps (fun x => x = db ∨ x = nb ∨ x = mb ∨ x = sb) w w' ∧ SaveO B D left down A code B' D' left' down' ∧ SlAt w' sb db (code != 0)

set_option maxRecDepth 100000 in
set_option maxHeartbeats 1000000 in
theorem set_at {w : World} {sb db nb mb n cap : Nat} {B : List UInt8} {k : Nat} {D : DataW Unit} {left : Int} {down : Bool} (h : DevAt w db nb mb n cap B k D left down) (hS : SlAt w sb db false) (hne : sb ≠ db ∧ sb ≠ nb ∧ sb ≠ mb) (hk : k ≤ 1000) (ka : Option Addr) (kc : Nat) (A : List Int) (hl : A.length ≤ 4) (hA : IntsAt w w.heap.size ka A.length A) :
    Calls Tryz.prog 81 #[.pointer (some ⟨sb, 0, none⟩), .slice ka A.length kc] w (SetP sb db nb mb n cap B k D left down A w) := by
  have c1 := hS.c1
  have c0 := hS.c0
  have hsl := hS.lt
  go_enter Tryz.func81, Tryz.ntmps81
  go_wp2_with fail
  refine (save_at h (by omega) ka kc A hl hA).mono ?_
  rintro e w2 ⟨code, mb2, k2, B2, D2, left2, down2, rfl, h2, hk2, hm2, hK2, hO⟩
  have hS2 := hS.keeps hK2 (by omega)
  have d1 := hS2.c1
  have f1 := hS2.f 1
  have hs2 := hK2.size
  have hK3 : Keeps (fun x => x = sb) w2 (w2.setCell ⟨sb, 1, none⟩ (.bool (code != 0))) := (Keeps.refl (fun x => x = sb) w2).setCell (p := ⟨sb, 1, none⟩) rfl _
  have HP : Hid (SetP sb db nb mb n cap B k D left down A w (.returned (.int .i64 code)) (w2.setCell ⟨sb, 1, none⟩ (.bool (code != 0)))) := by
    refine ⟨code, mb2, k2, B2, D2, left2, down2, rfl, h2.keeps hK3 (by omega) (by omega) (by omega), hk2, hm2, (hK2.mono (fun x e => by omega)).trans (hK3.mono (fun x e => by omega)), hO, ⟨?_, ?_, fun o => ?_⟩⟩
    · exact (World.cell?_setCell_other _ _ _ _ (by simp)).trans hS2.c0
    · exact World.cell?_setCell_same _ _ _ hS2.c1
    · rw [World.frozen?_setCell]; exact hS2.f o
  clear h h2 hK2 hO hS2 hK3 hS hA c0 c1
  go_wp2_with fail
  go_ret
  exact HP.out
def OpenP (db : Nat) (x : Option (Int × List Int)) (w : World) (e : Ending) (w' : World) : Prop :=
  Below w.heap.size w w' ∧ (x = none → e = .returned (.tuple #[.pointer none, .slice none 0 0, .int .i64 10])) ∧ (∀ t ns, x = some (t, ns) → ∃ sb ka kc, e = .returned (.tuple #[.pointer (some ⟨sb, 0, none⟩), .slice ka ns.length kc, .int .i64 0]) ∧ w.heap.size ≤ sb ∧ SlAt w' sb db false ∧ IntsAt w' w'.heap.size ka ns.length ns ∧ (∀ b o, ka = some ⟨b, o, none⟩ → ns.length ≠ 0 → w.heap.size ≤ b ∧ b ≠ sb))

set_option maxRecDepth 100000 in
set_option maxHeartbeats 1000000 in
theorem open_at {w : World} {db nb mb n cap : Nat} {B : List UInt8} {k : Nat} {D : DataW Unit} {left : Int} {down : Bool} (h : DevAt w db nb mb n cap B k D left down) :
    Calls Tryz.prog 82 #[.pointer (some ⟨db, 0, none⟩)] w (OpenP db (newestOf (sec B 0) (sec B 1)).2 w) := by
  have hn1 := h.n1
  go_enter Tryz.func82, Tryz.ntmps82
  go_wp2_with fail
  refine (newest_at h (by omega)).mono ?_
  rintro e w1 ⟨hb1, cv, ok, rfl, hN, hS⟩
  generalize (newestOf (sec B 0) (sec B 1)).1 = at_
  cases hx : (newestOf (sec B 0) (sec B 1)).2 with
  | none =>
    obtain ⟨rfl, rfl⟩ := hN hx
    have HP : Hid (OpenP db (newestOf (sec B 0) (sec B 1)).2 w (.returned (.tuple #[.pointer none, .slice none 0 0, .int .i64 10])) (w1.alloc (.cells #[.int .i64 0, .slice none 0 0] 172))) := by
      refine ⟨hb1.alloc hb1.size _, fun _ => rfl, fun t ns e => ?_⟩
      rw [hx] at e; cases e
    clear hN hS hx
    go_wp2_with fail
    go_ret3
    exact HP.out
  | some c =>
    obtain ⟨t, ns⟩ := c
    obtain ⟨rfl, ka, kc, rfl, hA, hf⟩ := hS t ns hx
    have hbV : Below w1.heap.size w1 (w1.alloc (.cells #[.int .i64 t, .slice ka ns.length kc] 172)) := (Below.refl _ w1).alloc (Nat.le_refl _) _
    have hvV := heap_alloc_last w1 (.cells #[.int .i64 t, .slice ka ns.length kc] 172)
    have hsV : (w1.alloc (.cells #[.int .i64 t, .slice ka ns.length kc] 172)).heap.size = w1.heap.size + 1 := by simp
    have HX : Hid ((newestOf (sec B 0) (sec B 1)).2 = some (t, ns)) := hx
    clear hN hS hx
    go_wp2_with fail
    generalize w1.alloc (.cells #[.int .i64 t, .slice ka ns.length kc] 172) = wV at hbV hvV hsV ⊢
    have v1 : wV.cell? ⟨w1.heap.size, 1, none⟩ = some (.slice ka ns.length kc) := by rw [cell_of_row _ _ 1 _ 172 (0, 0) hvV]; rfl
    have v1' : wV.drew.cell? ⟨w1.heap.size, 1, none⟩ = some (.slice ka ns.length kc) := v1
    have hs1 := hb1.size
    have hnn := World.new_ne wV ⟨w1.heap.size, 1, none⟩ v1
    have hbE : Below w.heap.size w (wV.alloc (.cells #[.pointer (some ⟨db, 0, none⟩), .bool false] 170)) := (hb1.trans (hbV.mono hs1)).alloc (by omega) _
    have hbVE : Below w1.heap.size w1 (wV.alloc (.cells #[.pointer (some ⟨db, 0, none⟩), .bool false] 170)) := hbV.alloc (by omega) _
    have hIE := (hA.below hbVE).up hbVE.size
    have hAlt : ∀ b o, ka = some ⟨b, o, none⟩ → ns.length ≠ 0 → b < w1.heap.size := fun b o e hn => by
      rcases hA.at_ with q | ⟨b', o', e', hb', _⟩
      · exact absurd q hn
      · rw [e] at e'; cases e'; exact hb'
    go_region_held (fun w' => w'.cell? ⟨w1.heap.size, 1, none⟩ = some (.slice ka ns.length kc)) (first | exact v1' | go_keep) (fail)
    all_goals go_wp2_with fail
    all_goals go_ret3
    all_goals refine ⟨below_dr hbE, fun e => (by rw [HX.out] at e; cases e), fun t' ns' e => ?_⟩
    all_goals rw [HX.out] at e
    all_goals cases e
    have hsl := sl_new wV db
    rw [hsV] at hsl
    exact ⟨w1.heap.size + 1, ka, kc, rfl, by omega, hsl.keeps (S := fun _ => False) (Keeps.drew (Keeps.refl _ _)) (fun e => e), hIE.keep (S := fun _ => False) (Nat.le_refl _) (Keeps.drew (Keeps.refl _ _)) (fun _ _ _ _ e => e), fun b o e hn => ⟨hf b o e, by have := hAlt b o e hn; omega⟩⟩
end Go.Proofs.YteaacodloabdcaaGreatDoor

namespace Go.Proofs.YteaacodloabdcaaGreatDoor
open Go.RowKit

theorem put_newest {B : List UInt8} {n : Nat} (hB : B.length = n * 64) (hn : 2 ≤ n) (A : List Int) (hl : A.length ≤ 4) (hf : AllFit A) :
    newestOf (sec (put B (1 - (newestOf (sec B 0) (sec B 1)).1) (secOf (afterT (turnOf (newestOf (sec B 0) (sec B 1)).2)) A)) 0) (sec (put B (1 - (newestOf (sec B 0) (sec B 1)).1) (secOf (afterT (turnOf (newestOf (sec B 0) (sec B 1)).2)) A)) 1) = (1 - (newestOf (sec B 0) (sec B 1)).1, some (afterT (turnOf (newestOf (sec B 0) (sec B 1)).2), A)) := by
  have hs := saved_newest (sec B 0) (sec B 1) A hl hf
  have ha := afterT_fine (turnOf (newestOf (sec B 0) (sec B 1)).2)
  have hlen := secOf_len (t := afterT (turnOf (newestOf (sec B 0) (sec B 1)).2)) (ns := A) ⟨ha.1, ha.2, hl, hf⟩
  unfold saved at hs
  rcases newestOf_at (sec B 0) (sec B 1) with h0 | h0
  · rw [h0] at hs ⊢
    rw [if_pos rfl] at hs
    rw [sec_put_other hB (by omega) hlen (by decide), sec_put_same hB (by omega) hlen]
    exact hs
  · rw [h0] at hs ⊢
    rw [if_neg (by decide)] at hs
    rw [sec_put_same hB (by omega) hlen, sec_put_other hB (by omega) hlen (by decide)]
    exact hs
/-- A device on which some numbers last. -/
structure Good (B : List UInt8) (D : DataW Unit) (left : Int) (down : Bool) (A : List Int) : Prop where
  d : D = .map []
  l : left = 0
  dn : down = false
  new : ∃ at_ t, newestOf (sec B 0) (sec B 1) = (at_, some (t, A))
theorem save_good {B : List UInt8} {n : Nat} (hB : B.length = n * 64) (hn : 2 ≤ n) {A : List Int} (hl : A.length ≤ 4) (hf : AllFit A) {code : Int} {B' : List UInt8} {D D' : DataW Unit} {left' : Int} {down' : Bool} (h : SaveO B D 0 false A code B' D' left' down') : code = 0 ∧ Good B' D' left' down' A := by
  rcases h with ⟨e, _⟩ | ⟨_, e, _⟩ | ⟨_, _, rfl, rfl, rfl, rfl, rfl⟩
  · cases e
  · exact absurd e (by decide)
  · exact ⟨rfl, rfl, rfl, rfl, _, _, put_newest hB hn A hl hf⟩
theorem save_len {B : List UInt8} {n : Nat} (hB : B.length = n * 64) (hn : 2 ≤ n) {A : List Int} (hl : A.length ≤ 4) (hf : AllFit A) {code : Int} {B' : List UInt8} {D D' : DataW Unit} {left left' : Int} {down down' : Bool} (h : SaveO B D left down A code B' D' left' down') : B'.length = n * 64 := by
  have ha := afterT_fine (turnOf (newestOf (sec B 0) (sec B 1)).2)
  have hlen := secOf_len (t := afterT (turnOf (newestOf (sec B 0) (sec B 1)).2)) (ns := A) ⟨ha.1, ha.2, hl, hf⟩
  rcases h with ⟨_, _, rfl, _⟩ | ⟨_, _, _, rfl, _⟩ | ⟨_, _, _, rfl, _⟩
  · exact hB
  · exact put_length hB (by omega) hlen
  · exact put_length hB (by omega) hlen
theorem make_good {B : List UInt8} {n : Nat} (hB : B.length = n * 64) (hn : 2 ≤ n) {A : List Int} (hl : A.length ≤ 4) (hf : AllFit A) {code : Int} {B' : List UInt8} {D D' : DataW Unit} {left' : Int} {down' : Bool} (h : MakeO B D 0 false A code B' D' left' down') : code = 0 ∧ Good B' D' left' down' A := by
  obtain ⟨code1, B1, D1, left1, down1, h1, h2⟩ := h
  have hB1 := save_len hB hn hl hf h1
  obtain ⟨rfl, g1⟩ := save_good hB hn hl hf h1
  rcases h2 with ⟨e, _⟩ | ⟨_, h2⟩
  · exact absurd rfl e
  · have e1 := g1.l
    have e2 := g1.dn
    subst e1 e2
    exact save_good hB1 hn hl hf h2
theorem intKeys_nil : intKeys (.map [] : DataW Unit) = [] := rfl
theorem crash_good {B : List UInt8} {D : DataW Unit} {left : Int} {down : Bool} {A : List Int} (h : Good B D left down A) {K : List Bool} {L : List Int} (hp : L.Perm (intKeys D)) : crashB D K L B L.length = B ∧ Good B (.map []) 0 false A := by
  have e1 := h.d
  subst e1
  have hL : L = [] := by rw [intKeys_nil] at hp; exact hp.eq_nil
  subst hL
  exact ⟨rfl, rfl, rfl, rfl, h.new⟩

theorem same_drewN {a w : World} (h : Same a w) (n : Nat) : Same a (w.drewN n) := ⟨h.heap, h.os, h.tape, h.output⟩
theorem take_eq_succ {A1 A2 : List Int} {j : Nat} (h1 : j < A1.length) (h2 : j < A2.length) (h : A1.take j = A2.take j) (e : A1.getD j 0 = A2.getD j 0) : A1.take (j + 1) = A2.take (j + 1) := by
  rw [List.take_succ_eq_append_getElem h1, List.take_succ_eq_append_getElem h2, h]
  simp only [List.getD, List.getElem?_eq_getElem h1, List.getElem?_eq_getElem h2, Option.getD_some] at e
  rw [e]

end Go.Proofs.YteaacodloabdcaaGreatDoor

namespace Go.Proofs.YteaacodloabdcaaGreatDoor
open Go.RowKit

/-- The numbers that count. -/
def told (B : List UInt8) : Option (List Int) := (newestOf (sec B 0) (sec B 1)).2.map Prod.snd
/-- Nothing is loose, x lasts; or one slot is loose, x lasts without it, y with it. -/
def Lasts (n : Nat) (B : List UInt8) (D : DataW Unit) (x y : Option (List Int)) : Prop :=
  B.length = n * 64 ∧ ((D = .map [] ∧ told B = x ∧ y = x) ∨ ∃ B0 i s, i < 2 ∧ B0.length = n * 64 ∧ s.length = 64 ∧ D = wput (.map []) i (sec B0 i) ∧ B = put B0 i s ∧ told B0 = x ∧ told B = y)
theorem wput_nil (i : Nat) (s : List UInt8) : wput (.map []) i s = (DataW.map []).put (.int .i64 i) (.lit (.string s)) := rfl
theorem intKeys_one (i : Nat) (s : List UInt8) : intKeys (wput (.map []) i s) = [(i : Int)] := rfl
theorem sec_back {B0 : List UInt8} {n i : Nat} {s : List UInt8} (h : B0.length = n * 64) (hi : i < n) (hs : s.length = 64) (j : Nat) : sec (put (put B0 i s) i (sec B0 i)) j = sec B0 j := by
  have hl := put_length h hi hs
  have hz := sec_length h hi
  by_cases e : j = i
  · subst e; rw [sec_put_same hl hi hz]
  · rw [sec_put_other hl hi hz e, sec_put_other h hi hs e]
theorem crash_lasts {n : Nat} (hn : 2 ≤ n) {B : List UInt8} {D : DataW Unit} {x y : Option (List Int)} (h : Lasts n B D x y) {K : List Bool} {L : List Int} (hp : L.Perm (intKeys D)) : (told (crashB D K L B L.length) = x ∨ told (crashB D K L B L.length) = y) ∧ (crashB D K L B L.length).length = n * 64 := by
  obtain ⟨hB, ⟨rfl, hx, rfl⟩ | ⟨B0, i, s, hi, hB0, hs, rfl, rfl, hx, hy⟩⟩ := h
  · have hL : L = [] := by rw [intKeys_nil] at hp; exact hp.eq_nil
    subst hL
    exact ⟨Or.inl hx, hB⟩
  · rw [intKeys_one] at hp
    have hL : L = [(i : Int)] := List.perm_singleton.1 hp
    subst hL
    show (told (crashB _ K [(i : Int)] _ 1) = x ∨ told (crashB _ K [(i : Int)] _ 1) = y) ∧ (crashB _ K [(i : Int)] _ 1).length = n * 64
    unfold crashB
    split
    · exact ⟨Or.inr hy, hB⟩
    · have hw : wasOf (wput (.map []) i (sec B0 i)) (([(i : Int)]).getD 0 0) = sec B0 i := by
        rw [wput_nil]
        have := wasOf_put (.map []) ⟨_, rfl⟩ i i (sec B0 i)
        rw [if_pos rfl] at this
        exact this
      have hi0 : ([(i : Int)].getD 0 0).toNat = i := rfl
      rw [hw, hi0]
      have e : told (put (put B0 i s) i (sec B0 i)) = told B0 := by
        unfold told
        rw [sec_back hB0 (by omega) hs, sec_back hB0 (by omega) hs]
      refine ⟨Or.inl (e.trans hx), ?_⟩
      exact put_length hB (by omega) (sec_length hB0 (by omega))
theorem told_put {B : List UInt8} {n : Nat} (hB : B.length = n * 64) (hn : 2 ≤ n) (A : List Int) (hl : A.length ≤ 4) (hf : AllFit A) :
    told (put B (1 - (newestOf (sec B 0) (sec B 1)).1) (secOf (afterT (turnOf (newestOf (sec B 0) (sec B 1)).2)) A)) = some A := by
  unfold told
  rw [put_newest hB hn A hl hf]
  rfl
/-- A save, wherever it is cut off. -/
theorem save_lasts {n : Nat} (hn : 2 ≤ n) {B : List UInt8} {D : DataW Unit} {x : Option (List Int)} (hB : B.length = n * 64) (hD : D = .map []) (hx : told B = x) {A : List Int} (hl : A.length ≤ 4) (hf : AllFit A) {left left' : Int} {down down' : Bool} {code : Int} {B' : List UInt8} {D' : DataW Unit} (h : SaveO B D left down A code B' D' left' down') :
    (code = 0 ∧ D' = .map [] ∧ B'.length = n * 64 ∧ told B' = some A) ∨ (code = 9 ∧ ∃ y, Lasts n B' D' x y ∧ (y = x ∨ y = some A)) := by
  subst hD
  have ha := afterT_fine (turnOf (newestOf (sec B 0) (sec B 1)).2)
  have hlen := secOf_len (t := afterT (turnOf (newestOf (sec B 0) (sec B 1)).2)) (ns := A) ⟨ha.1, ha.2, hl, hf⟩
  have ht := told_put hB hn A hl hf
  rcases h with ⟨_, rfl, rfl, rfl, _⟩ | ⟨_, _, rfl, rfl, rfl, _⟩ | ⟨_, _, rfl, rfl, rfl, _⟩
  · exact Or.inr ⟨rfl, x, ⟨hB, Or.inl ⟨rfl, hx, rfl⟩⟩, Or.inl rfl⟩
  · refine Or.inr ⟨rfl, some A, ⟨put_length hB (by omega) hlen, Or.inr ⟨B, _, _, by omega, hB, hlen, rfl, rfl, hx, ht⟩⟩, Or.inr rfl⟩
  · exact Or.inl ⟨rfl, rfl, put_length hB (by omega) hlen, ht⟩
/-- A make, wherever it is cut off. -/
theorem make_lasts {n : Nat} (hn : 2 ≤ n) {B : List UInt8} {D : DataW Unit} {x : Option (List Int)} (hB : B.length = n * 64) (hD : D = .map []) (hx : told B = x) {A : List Int} (hl : A.length ≤ 4) (hf : AllFit A) {left left' : Int} {down down' : Bool} {code : Int} {B' : List UInt8} {D' : DataW Unit} (h : MakeO B D left down A code B' D' left' down') :
    (code = 0 ∧ D' = .map [] ∧ B'.length = n * 64 ∧ told B' = some A) ∨ (code = 9 ∧ ∃ x' y, Lasts n B' D' x' y ∧ (x' = x ∨ x' = some A) ∧ (y = x ∨ y = some A)) := by
  obtain ⟨code1, B1, D1, left1, down1, h1, h2⟩ := h
  rcases save_lasts hn hB hD hx hl hf h1 with ⟨rfl, hD1, hB1, hx1⟩ | ⟨rfl, y, hL, hy⟩
  · rcases h2 with ⟨e, _⟩ | ⟨_, h2⟩
    · exact absurd rfl e
    · rcases save_lasts hn hB1 hD1 hx1 hl hf h2 with ⟨rfl, q⟩ | ⟨rfl, y, hL, hy⟩
      · exact Or.inl ⟨rfl, q⟩
      · exact Or.inr ⟨rfl, some A, y, hL, Or.inr rfl, hy.elim Or.inr Or.inr⟩
  · rcases h2 with ⟨_, rfl, rfl, rfl, _⟩ | ⟨e, _⟩
    · exact Or.inr ⟨rfl, x, y, hL, Or.inl rfl, hy⟩
    · cases e
end Go.Proofs.YteaacodloabdcaaGreatDoor
