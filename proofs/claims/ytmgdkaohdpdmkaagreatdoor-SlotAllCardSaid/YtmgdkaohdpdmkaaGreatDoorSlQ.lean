import Derived.Test.YtmgdkaohdpdmkaaGreatDoorSlP
namespace Go.Proofs.YtmgdkaohdpdmkaaGreatDoor
open Go.RowKit

/-- The loop's. -/
def AlI (w wr : World) (sb db nb : Nat) (W : List Int) (wa : Option Addr) (idx : Int) (j : Nat) : Prop :=
  ∃ (k : Nat) (left : Int) (down : Bool), AlD w wr sb db nb W wa left down k ∧ k ≤ j + 2 ∧ (((j : Int) ≤ idx ∧ left = 0 ∧ down = false) ∨ idx < (j : Int))
theorem AlI.next {w wr : World} {sb db nb : Nat} {W : List Int} {wa : Option Addr} {idx : Int} {j : Nat} (h : AlI w wr sb db nb W wa idx j) : AlI w wr sb db nb W wa idx (j + 1) := by
  obtain ⟨k, left, down, h1, h2, h3⟩ := h
  refine ⟨k, left, down, h1, by omega, ?_⟩
  rcases h3 with ⟨a, b, c⟩ | a
  · by_cases e : (j : Int) = idx
    · exact Or.inr (by omega)
    · exact Or.inl ⟨by omega, b, c⟩
  · exact Or.inr (by omega)
theorem AlI.drew {w wr : World} {sb db nb : Nat} {W : List Int} {wa : Option Addr} {idx : Int} {j : Nat} (h : AlI w wr sb db nb W wa idx j) (n : Nat) : AlI w (wr.drewN n) sb db nb W wa idx j := by
  obtain ⟨k, left, down, h1, h2, h3⟩ := h
  exact ⟨k, left, down, h1.keep ((same_drewN (Same.refl wr) n).keeps _), h2, h3⟩
theorem AlI.bel {w wr : World} {sb db nb : Nat} {W : List Int} {wa : Option Addr} {idx : Int} {j : Nat} (h : AlI w wr sb db nb W wa idx j) : Below w.heap.size w wr := by
  obtain ⟨k, left, down, h1, h2, h3⟩ := h
  exact h1.bel

set_option maxRecDepth 100000 in
set_option maxHeartbeats 1500000 in
theorem slotAll_true (a1 : Option Addr) (n1 c1 : Nat) (f0 : Int) (hf0 : -9223372036854775808 ≤ f0 ∧ f0 ≤ 9223372036854775807) (w : World) (h1 : SetsAt w a1 n1) (ka : Option Addr) (kl kc : Nat) (K : List Bool) (hK : KeepB w w.heap.size ka kl K) (hg : w.cell? ⟨0, 0, none⟩ = some errType) :
    Calls Tryz.prog 3 #[.slice a1 n1 c1, .int .i64 f0, .slice ka kl kc] w fun e w' => e = .returned (.bool true) ∧ Below w.heap.size w w' := by
  go_enter Tryz.func3, Tryz.ntmps3
  go_wp2_with fail
  refine (begun4_true _ hg).mono ?_
  rintro e w1 ⟨rfl, hb1⟩
  clear hg
  go_wp2_with fail
  have hsq := hb1.size
  refine (new_at 64 w1 (by omega) (by omega)).mono ?_
  rintro e w2 ⟨db, dn, mb, rfl, l1, l2, l3, hd2, hb2⟩
  have hs2 := hb2.size
  have hbw2 : Below w.heap.size w w2 := hb1.trans (hb2.mono hsq)
  have hv2 := heap_alloc_last w2 (.cells #[.int .i64 1] 2)
  have hkA : Keeps (fun _ => False) w2 (w2.alloc (.cells #[.int .i64 1] 2)) := (Keeps.refl _ w2).alloc _
  have hdA := hd2.keeps hkA (fun e => e) (fun e => e) (fun e => e)
  have hzA : (w2.alloc (.cells #[.int .i64 1] 2)).heap.size = w2.heap.size + 1 := by simp
  have hbwA : Below w.heap.size w (w2.alloc (.cells #[.int .i64 1] 2)) := hbw2.alloc hbw2.size _
  have dl := hd2.dlt
  have dnl := hd2.nlt
  have dml := hd2.mlt
  clear hb1 hb2 hd2 hkA
  go_wp2_with fail
  generalize w2.alloc (.cells #[.int .i64 1] 2) = wA at hv2 hdA hzA hbwA ⊢
  have hf1 : AllFit [1] := fun x hx => by simp at hx; subst hx; omega
  have hI1 : IntsAt wA wA.heap.size (some ⟨w2.heap.size, 0, none⟩) [(1 : Int)].length [1] := ⟨rfl, hf1, Or.inr ⟨w2.heap.size, 0, rfl, by omega, range_of_row hv2 _ rfl⟩⟩
  have hBlen := hdA.len
  have km := make_at hdA (by omega) (some ⟨w2.heap.size, 0, none⟩) 1 [1] (by simp) hI1 (fun b o e hn => by cases e; omega)
  rw [show [(1 : Int)].length = 1 from rfl] at km
  refine km.mono ?_
  rintro e w3 ⟨code, pv, mb3, k3, B3, D3, left3, down3, rfl, hd3, hk3, hm3, hK3, hM, _, hpv⟩
  obtain ⟨rfl, hG3⟩ := make_good hBlen (by omega) (by simp) hf1 hM
  obtain ⟨sb, rfl, hsb, hSl3, hne3⟩ := hpv rfl
  have hs3 := hK3.size
  have hbw3 := hbwA.trans (hK3.below (by omega) (fun i e => by omega))
  clear km hM hpv hK3 hdA hBlen hI1 hv2 hbwA hbw2
  have el := hG3.l
  have ed := hG3.dn
  have eD := hG3.d
  obtain ⟨at3, t3, hnew3⟩ := hG3.new
  have ht3 : told B3 = some [1] := by unfold told; rw [hnew3]; rfl
  subst el ed eD
  clear hG3 hnew3
  have hlow : w.heap.size ≤ db ∧ w.heap.size ≤ dn ∧ w.heap.size ≤ mb3 ∧ w.heap.size ≤ sb := by omega
  have hvC := heap_alloc_last w3 (.cells #[.int .i64 1] 2)
  have hkC : Keeps (fun _ => False) w3 (w3.alloc (.cells #[.int .i64 1] 2)) := (Keeps.refl _ w3).alloc _
  have dl3 := hd3.dlt
  have dnl3 := hd3.nlt
  have dml3 := hd3.mlt
  have sl3 := hSl3.lt
  have hzC : (w3.alloc (.cells #[.int .i64 1] 2)).heap.size = w3.heap.size + 1 := by simp
  have hr0 := rem_any f0 12 (by omega)
  have hI0 : AlI w (w3.alloc (.cells #[.int .i64 1] 2)) sb db dn [1] (some ⟨w3.heap.size, 0, none⟩) (f0.tmod 12 % 12) 0 :=
    ⟨k3, 0, false, ⟨mb3, B3, by simp, hd3.keeps hkC (fun e => e) (fun e => e) (fun e => e), ht3, hSl3.keeps hkC (fun e => e), hne3, hlow, hbw3.alloc hbw3.size _, ⟨rfl, hf1, Or.inr ⟨w3.heap.size, 0, rfl, by omega, range_of_row hvC _ rfl⟩⟩, fun b o e _ => by cases e; omega⟩, hk3, Or.inl ⟨by show (0 : Int) ≤ _; omega, rfl, rfl⟩⟩
  have HA : Hid (SetsAt w a1 n1 ∧ KeepB w w.heap.size ka kl K) := ⟨h1, hK⟩
  clear hd3 hSl3 hbw3 hvC hkC h1 hK ht3 hf1 hzC
  go_wp2_with fail
  go_loopw [11, 12] (fun s11 s12 wr => ∃ j : Nat, j ≤ 12 ∧ s12 = .int .i64 j ∧ ∃ W wa wc, s11 = .slice wa (List.length W) wc ∧ AlI w wr sb db dn W wa (f0.tmod 12 % 12) j) (fun _ s12 _ => 12 - (RowKit.intOf s12).toNat)
  case atStart => exact ⟨0, by omega, rfl, [1], _, _, rfl, hI0⟩
  case round => as_aux_lemma =>
    obtain ⟨j, hj, rfl, W, wa, wc, rfl, hI⟩ := hrel
    clear hI0
    by_cases hlt : j < n1 ∧ j < 12
    · obtain ⟨hlt1, hlt2⟩ := hlt
      obtain ⟨b, o, aj, nj, cj, A, rfl, hbl, hcell, hIA, hnc, hcm⟩ := HA.out.1 j hlt1
      have hcr := (hI.bel.cell (p := ⟨b, o + j, none⟩) hbl).trans hcell
      have HQ : Hid (∀ n, AlI w (wr.drewN n) sb db dn W wa (f0.tmod 12 % 12) j) := fun n => hI.drew n
      have HX : Hid (IntsAt w w.heap.size aj (min (nj : Int) 6).toNat (A.take (min (nj : Int) 6).toNat)) := hIA.head (min (nj : Int) 6).toNat (by omega)
      have hm6 : (min (nj : Int) 6).toNat ≤ 6 := by omega
      have hmc : (min (nj : Int) 6).toNat ≤ cj := by omega
      clear hI hcell hIA
      go_wp2_with fail
      go_quiet (fail)
      have hq := HQ.out nq
      generalize wr.drewN nq = wq at hq ⊢
      obtain ⟨X, hX⟩ : ∃ X, IntsAt w w.heap.size aj (min (nj : Int) 6).toNat X := ⟨_, HX.out⟩
      clear HX HQ hcr
      generalize (min (nj : Int) 6).toNat = m at hX hm6 hmc ⊢
      obtain rfl := hX.len
      by_cases hlong : 4 < X.length
      · have hsl : SlAt wq sb db false := by obtain ⟨_, _, _, ⟨_, _, _, _, _, h, _⟩, _⟩ := hq; exact h
        have HN : Hid (AlI w wq sb db dn W wa (f0.tmod 12 % 12) (j + 1)) := hq.next
        have HS : Hid (Calls Tryz.prog 12 #[.pointer (some ⟨sb, 0, none⟩), .slice aj X.length cj] wq fun e w' => e = .returned (.int .i64 1) ∧ w' = wq) := set_long hsl aj X.length cj hlong
        clear hq hsl hX
        go_wp2_with fail
        refine HS.out.mono ?_
        rintro e w5 ⟨rfl, rfl⟩
        clear HS
        go_wp2_with fail
        go_roundw
        case rel => exact ⟨j + 1, by omega, by go_num, W, wa, wc, rfl, HN.out⟩
        case measure => simp [RowKit.intOf]; omega
      · have HX : Hid (IntsAt w w.heap.size aj X.length X) := hX
        have HQ : Hid (AlI w wq sb db dn W wa (f0.tmod 12 % 12) j) := hq
        clear hX hq
        by_cases hidx : (j : Int) = f0.tmod 12 % 12
        · have hff := rem_any (wrap64 ((f0.tdiv 12).tmod 5 + 5)) 5 (by omega)
          obtain ⟨k0, left0, down0, hD0, hk0, hph0⟩ := HQ.out
          obtain ⟨_, rfl, rfl⟩ := hph0.resolve_right (by omega)
          have HF : Hid (∀ m : Int, m ≤ 9223372036854775807 → Calls Tryz.prog 13 #[.pointer (some ⟨db, 0, none⟩), .int .i64 m] wq fun e w' => e = .returned (.tuple #[]) ∧ ∃ left' down', AlD w w' sb db dn W wa left' down' k0) := fun m hm => hD0.fuse m hm
          clear hD0 hph0 HQ
          go_wp2_with fail
          refine (HF.out _ (by omega)).mono ?_
          rintro e w4 ⟨rfl, left4, down4, hD4⟩
          have HD4 : Hid (∃ k left down, AlD w w4 sb db dn W wa left down k ∧ k ≤ j + 2 ∧ ((((j + 1 : Nat) : Int) ≤ f0.tmod 12 % 12 ∧ left = 0 ∧ down = false) ∨ f0.tmod 12 % 12 < ((j + 1 : Nat) : Int))) := ⟨k0, left4, down4, hD4, hk0, Or.inr (by omega)⟩
          clear hD4 HF hff
          go_wp2_with fail
          obtain ⟨k4, left4, down4, hD4, hk4, hph4⟩ := HD4.out
          refine (hD4.set (by omega) aj cj X (by omega) HX.out).mono ?_
          rintro e w5 ⟨code, rfl, hcase⟩
          rcases hcase with ⟨rfl, left5, down5, k5, hk5, hD5, h05⟩ | ⟨rfl, hN5⟩
          · have HI5 : Hid (∀ wx, AlD w wx sb db dn X aj left5 down5 k5 → AlI w wx sb db dn X aj (f0.tmod 12 % 12) (j + 1)) := fun wx hx => ⟨k5, left5, down5, hx, by omega, by rcases hph4 with ⟨a, b⟩ | a; exact Or.inl ⟨a, h05 b⟩; exact Or.inr a⟩
            have HC : Hid (Calls Tryz.prog 15 #[.pointer (some ⟨db, 0, none⟩), .slice ka kl kc] w5 fun e w' => ∃ db6, e = .returned (.pointer (some ⟨db6, 0, none⟩)) ∧ AlC w' db6 X X ∧ AlD w w' sb db dn X aj left5 down5 k5) := hD5.crash (by omega) kc HA.out.2
            clear hD4 hD5 h05 hph4 HD4
            go_wp2_with fail
            refine HC.out.mono ?_
            rintro e w6 ⟨db6, rfl, hC6, hD6⟩
            have HO : Hid (AlC w6 db6 X X) := hC6
            have HD6 : Hid (AlD w w6 sb db dn X aj left5 down5 k5) := hD6
            clear hC6 hD6 HC
            go_wp2_with fail
            refine HO.out.open.mono ?_
            rintro e w7 ⟨sb7, ka7, kc7, Y, rfl, hY, hJ7, hk7⟩
            obtain rfl : X = Y := (hY.elim id id).symm
            have hD7 := HD6.out.keep hk7
            have i7 := (HX.out.below hD7.bel).up hD7.bel.size
            have HI : Hid (Calls Tryz.prog 16 #[.slice ka7 X.length kc7, .slice aj X.length cj] w7 fun e w' => e = .returned (.bool true) ∧ Same w7 w') := by
              have hq := ints_at (L := w7.heap.size) ka7 X.length kc7 X hJ7 aj X.length cj X i7 (by omega)
              rw [show decide (X = X) = true from decide_eq_true rfl] at hq
              exact hq
            have HD7 : Hid (AlD w w7 sb db dn X aj left5 down5 k5) := hD7
            clear hD7 i7 hJ7 hk7 HO HD6 hY
            go_wp2_with fail
            refine HI.out.mono ?_
            rintro e w8 ⟨rfl, hsm⟩
            have HI8 : Hid (AlI w w8 sb db dn X aj (f0.tmod 12 % 12) (j + 1)) := HI5.out w8 (HD7.out.keep (hsm.keeps _))
            clear hsm HI HD7 HI5
            go_wp2_with fail
            go_roundw
            case rel => exact ⟨j + 1, by omega, by first | go_num | (rw [← hidx]; go_num), X, aj, cj, rfl, HI8.out⟩
            case measure => simp [RowKit.intOf]; omega
          · have HC : Hid (Calls Tryz.prog 15 #[.pointer (some ⟨db, 0, none⟩), .slice ka kl kc] w5 fun e w' => ∃ db6, e = .returned (.pointer (some ⟨db6, 0, none⟩)) ∧ AlC w' db6 W X ∧ AlN w w' sb db dn W X wa) := hN5.crash kc HA.out.2
            have hW4 : W.length ≤ 4 := by obtain ⟨_, _, h, _⟩ := hD4; exact h
            clear hD4 hN5 hph4 HD4
            go_wp2_with fail
            refine HC.out.mono ?_
            rintro e w6 ⟨db6, rfl, hC6, hN6⟩
            have HO : Hid (AlC w6 db6 W X) := hC6
            have HN6 : Hid (AlN w w6 sb db dn W X wa) := hN6
            clear hC6 hN6 HC
            go_wp2_with fail
            refine HO.out.open.mono ?_
            rintro e w7 ⟨sb7, ka7, kc7, Y, rfl, hY, hJ7, hk7⟩
            have hN7 := HN6.out.keep hk7
            have HN7 : Hid (AlN w w7 sb db dn W X wa) := hN7
            obtain ⟨_, _, _, _, _, _, _, _, _, _, _, _, hbw7, j7⟩ := hN7
            have i7 := (HX.out.below hbw7).up hbw7.size
            have HI : Hid (Calls Tryz.prog 16 #[.slice ka7 Y.length kc7, .slice wa W.length wc] w7 fun e w' => e = .returned (.bool (decide (Y = W))) ∧ Same w7 w') := ints_at (L := w7.heap.size) ka7 Y.length kc7 Y hJ7 wa W.length wc W j7 (by omega)
            have HI2 : Hid (∀ w', Same w7 w' → Calls Tryz.prog 16 #[.slice ka7 Y.length kc7, .slice aj X.length cj] w' fun e w'' => e = .returned (.bool (decide (Y = X))) ∧ Same w' w'') := fun w' hs => by
              have hk := hs.keeps (fun _ => False)
              exact ints_at (L := w7.heap.size) ka7 Y.length kc7 Y (hJ7.keep (Nat.le_refl _) hk (fun _ _ _ _ e => e)) aj X.length cj X (i7.keep (Nat.le_refl _) hk (fun _ _ _ _ e => e)) (by omega)
            have HV : Hid (∀ w8 v, Same w7 w8 → SlAt (w8.alloc v) sb db true ∧ Below w.heap.size w (w8.alloc v)) := fun w8 v hs => by
              have hN8 := HN7.out.keep (hs.keeps (fun _ => False))
              obtain ⟨_, _, _, _, _, _, _, _, _, _, _, hS8, hb8, _⟩ := hN8
              exact ⟨hS8.keeps ((Keeps.refl (fun _ => False) w8).alloc v) (fun e => e), hb8.alloc hb8.size v⟩
            clear hJ7 hk7 HO HN6 HN7 hbw7 j7 i7
            by_cases hYW : Y = W
            · have HD : Hid (decide (Y = W) = true) := decide_eq_true hYW
              clear HI2 hY hYW
              go_wp2_with fail
              refine HI.out.mono ?_
              rintro e w8 ⟨rfl, hsm⟩
              rw [HD.out]
              have HS8 : Hid (Same w7 w8) := hsm
              clear hsm HI
              go_wp2_with fail
              refine (set_over (HV.out w8 _ HS8.out).1 _).mono ?_
              rintro e w9 ⟨rfl, rfl⟩
              have hb9 := (HV.out w8 (.cells #[.int .i64 3] 2) HS8.out).2
              go_wp2_with fail
              go_ret
              exact ⟨rfl, hb9⟩
            · have hYX : Y = X := hY.resolve_left hYW
              have HD : Hid (decide (Y = W) = false) := decide_eq_false hYW
              have HD2 : Hid (decide (Y = X) = true) := decide_eq_true hYX
              clear hY hYW hYX
              go_wp2_with fail
              refine HI.out.mono ?_
              rintro e w8 ⟨rfl, hsm⟩
              rw [HD.out]
              have HS8 : Hid (Same w7 w8) := hsm
              clear hsm HI
              go_wp2_with fail
              refine (HI2.out w8 HS8.out).mono ?_
              rintro e w9 ⟨rfl, hsm9⟩
              rw [HD2.out]
              have HS9 : Hid (Same w7 w9) := HS8.out.trans hsm9
              clear hsm9 HS8 HI2
              go_wp2_with fail
              refine (set_over (HV.out w9 _ HS9.out).1 _).mono ?_
              rintro e wz ⟨rfl, rfl⟩
              have hb9 := (HV.out w9 (.cells #[.int .i64 3] 2) HS9.out).2
              go_wp2_with fail
              go_ret
              exact ⟨rfl, hb9⟩
        · have HD4 : Hid (∃ k left down, AlD w wq sb db dn W wa left down k ∧ k ≤ j + 2 ∧ ((((j + 1 : Nat) : Int) ≤ f0.tmod 12 % 12 ∧ left = 0 ∧ down = false) ∨ f0.tmod 12 % 12 < ((j + 1 : Nat) : Int))) := by
            obtain ⟨k0, left0, down0, hD0, hk0, hph0⟩ := HQ.out
            refine ⟨k0, left0, down0, hD0, hk0, ?_⟩
            rcases hph0 with ⟨h, e⟩ | h
            · exact Or.inl ⟨by omega, e⟩
            · exact Or.inr (by omega)
          clear HQ
          go_wp2_with fail
          obtain ⟨k4, left4, down4, hD4, hk4, hph4⟩ := HD4.out
          refine (hD4.set (by omega) aj cj X (by omega) HX.out).mono ?_
          rintro e w5 ⟨code, rfl, hcase⟩
          rcases hcase with ⟨rfl, left5, down5, k5, hk5, hD5, h05⟩ | ⟨rfl, hN5⟩
          · have HI5 : Hid (∀ wx, AlD w wx sb db dn X aj left5 down5 k5 → AlI w wx sb db dn X aj (f0.tmod 12 % 12) (j + 1)) := fun wx hx => ⟨k5, left5, down5, hx, by omega, by rcases hph4 with ⟨a, b⟩ | a; exact Or.inl ⟨a, h05 b⟩; exact Or.inr a⟩
            have HC : Hid (Calls Tryz.prog 15 #[.pointer (some ⟨db, 0, none⟩), .slice ka kl kc] w5 fun e w' => ∃ db6, e = .returned (.pointer (some ⟨db6, 0, none⟩)) ∧ AlC w' db6 X X ∧ AlD w w' sb db dn X aj left5 down5 k5) := hD5.crash (by omega) kc HA.out.2
            clear hD4 hD5 h05 hph4 HD4
            go_wp2_with fail
            refine HC.out.mono ?_
            rintro e w6 ⟨db6, rfl, hC6, hD6⟩
            have HO : Hid (AlC w6 db6 X X) := hC6
            have HD6 : Hid (AlD w w6 sb db dn X aj left5 down5 k5) := hD6
            clear hC6 hD6 HC
            go_wp2_with fail
            refine HO.out.open.mono ?_
            rintro e w7 ⟨sb7, ka7, kc7, Y, rfl, hY, hJ7, hk7⟩
            obtain rfl : X = Y := (hY.elim id id).symm
            have hD7 := HD6.out.keep hk7
            have i7 := (HX.out.below hD7.bel).up hD7.bel.size
            have HI : Hid (Calls Tryz.prog 16 #[.slice ka7 X.length kc7, .slice aj X.length cj] w7 fun e w' => e = .returned (.bool true) ∧ Same w7 w') := by
              have hq := ints_at (L := w7.heap.size) ka7 X.length kc7 X hJ7 aj X.length cj X i7 (by omega)
              rw [show decide (X = X) = true from decide_eq_true rfl] at hq
              exact hq
            have HD7 : Hid (AlD w w7 sb db dn X aj left5 down5 k5) := hD7
            clear hD7 i7 hJ7 hk7 HO HD6 hY
            go_wp2_with fail
            refine HI.out.mono ?_
            rintro e w8 ⟨rfl, hsm⟩
            have HI8 : Hid (AlI w w8 sb db dn X aj (f0.tmod 12 % 12) (j + 1)) := HI5.out w8 (HD7.out.keep (hsm.keeps _))
            clear hsm HI HD7 HI5
            go_wp2_with fail
            go_roundw
            case rel => exact ⟨j + 1, by omega, by first | go_num | (rw [← hidx]; go_num), X, aj, cj, rfl, HI8.out⟩
            case measure => simp [RowKit.intOf]; omega
          · have HC : Hid (Calls Tryz.prog 15 #[.pointer (some ⟨db, 0, none⟩), .slice ka kl kc] w5 fun e w' => ∃ db6, e = .returned (.pointer (some ⟨db6, 0, none⟩)) ∧ AlC w' db6 W X ∧ AlN w w' sb db dn W X wa) := hN5.crash kc HA.out.2
            have hW4 : W.length ≤ 4 := by obtain ⟨_, _, h, _⟩ := hD4; exact h
            clear hD4 hN5 hph4 HD4
            go_wp2_with fail
            refine HC.out.mono ?_
            rintro e w6 ⟨db6, rfl, hC6, hN6⟩
            have HO : Hid (AlC w6 db6 W X) := hC6
            have HN6 : Hid (AlN w w6 sb db dn W X wa) := hN6
            clear hC6 hN6 HC
            go_wp2_with fail
            refine HO.out.open.mono ?_
            rintro e w7 ⟨sb7, ka7, kc7, Y, rfl, hY, hJ7, hk7⟩
            have hN7 := HN6.out.keep hk7
            have HN7 : Hid (AlN w w7 sb db dn W X wa) := hN7
            obtain ⟨_, _, _, _, _, _, _, _, _, _, _, _, hbw7, j7⟩ := hN7
            have i7 := (HX.out.below hbw7).up hbw7.size
            have HI : Hid (Calls Tryz.prog 16 #[.slice ka7 Y.length kc7, .slice wa W.length wc] w7 fun e w' => e = .returned (.bool (decide (Y = W))) ∧ Same w7 w') := ints_at (L := w7.heap.size) ka7 Y.length kc7 Y hJ7 wa W.length wc W j7 (by omega)
            have HI2 : Hid (∀ w', Same w7 w' → Calls Tryz.prog 16 #[.slice ka7 Y.length kc7, .slice aj X.length cj] w' fun e w'' => e = .returned (.bool (decide (Y = X))) ∧ Same w' w'') := fun w' hs => by
              have hk := hs.keeps (fun _ => False)
              exact ints_at (L := w7.heap.size) ka7 Y.length kc7 Y (hJ7.keep (Nat.le_refl _) hk (fun _ _ _ _ e => e)) aj X.length cj X (i7.keep (Nat.le_refl _) hk (fun _ _ _ _ e => e)) (by omega)
            have HV : Hid (∀ w8 v, Same w7 w8 → SlAt (w8.alloc v) sb db true ∧ Below w.heap.size w (w8.alloc v)) := fun w8 v hs => by
              have hN8 := HN7.out.keep (hs.keeps (fun _ => False))
              obtain ⟨_, _, _, _, _, _, _, _, _, _, _, hS8, hb8, _⟩ := hN8
              exact ⟨hS8.keeps ((Keeps.refl (fun _ => False) w8).alloc v) (fun e => e), hb8.alloc hb8.size v⟩
            clear hJ7 hk7 HO HN6 HN7 hbw7 j7 i7
            by_cases hYW : Y = W
            · have HD : Hid (decide (Y = W) = true) := decide_eq_true hYW
              clear HI2 hY hYW
              go_wp2_with fail
              refine HI.out.mono ?_
              rintro e w8 ⟨rfl, hsm⟩
              rw [HD.out]
              have HS8 : Hid (Same w7 w8) := hsm
              clear hsm HI
              go_wp2_with fail
              refine (set_over (HV.out w8 _ HS8.out).1 _).mono ?_
              rintro e w9 ⟨rfl, rfl⟩
              have hb9 := (HV.out w8 (.cells #[.int .i64 3] 2) HS8.out).2
              go_wp2_with fail
              go_ret
              exact ⟨rfl, hb9⟩
            · have hYX : Y = X := hY.resolve_left hYW
              have HD : Hid (decide (Y = W) = false) := decide_eq_false hYW
              have HD2 : Hid (decide (Y = X) = true) := decide_eq_true hYX
              clear hY hYW hYX
              go_wp2_with fail
              refine HI.out.mono ?_
              rintro e w8 ⟨rfl, hsm⟩
              rw [HD.out]
              have HS8 : Hid (Same w7 w8) := hsm
              clear hsm HI
              go_wp2_with fail
              refine (HI2.out w8 HS8.out).mono ?_
              rintro e w9 ⟨rfl, hsm9⟩
              rw [HD2.out]
              have HS9 : Hid (Same w7 w9) := HS8.out.trans hsm9
              clear hsm9 HS8 HI2
              go_wp2_with fail
              refine (set_over (HV.out w9 _ HS9.out).1 _).mono ?_
              rintro e wz ⟨rfl, rfl⟩
              have hb9 := (HV.out w9 (.cells #[.int .i64 3] 2) HS9.out).2
              go_wp2_with fail
              go_ret
              exact ⟨rfl, hb9⟩
    · have HB : Hid (Below w.heap.size w wr) := hI.bel
      clear hI
      go_wp2_with fail
      all_goals go_ret
      all_goals exact ⟨rfl, HB.out⟩
end Go.Proofs.YtmgdkaohdpdmkaaGreatDoor
