import Derived.Test.YtpepjbgklgjoaaaGreatDoorSnF
import Derived.Test.YtpepjbgklgjoaaaGreatDoorBgD
namespace Go.Proofs.YtpepjbgklgjoaaaGreatDoor
open Go.RowKit Go.Maps

set_option maxRecDepth 100000 in
set_option maxHeartbeats 4000000 in
theorem snapBad_true (s0 x y : Int) (hx : -9223372036854775808 ≤ x ∧ x ≤ 9223372036854775807) (hy : -9223372036854775808 ≤ y ∧ y ≤ 9223372036854775807) (w : World) (hg : w.cell? ⟨0, 0, none⟩ = some errType) :
    Calls Tryz.prog 8 #[.int .i64 s0, .int .i64 x, .int .i64 y] w fun e w' => e = .returned (.bool true) ∧ Below w.heap.size w w' := by
  have t0 : -200 < s0.tmod 200 := by have := Int.tmod_lt_of_pos (-s0) (show (0 : Int) < 200 by decide); rw [Int.neg_tmod] at this; omega
  have t1 : s0.tmod 200 < 200 := Int.tmod_lt_of_pos s0 (by decide)
  go_enter Tryz.func8, Tryz.ntmps8
  go_wp2_with fail
  refine (begun4_true _ hg).mono ?_
  rintro e w1 ⟨rfl, hb1⟩
  clear hg
  have hs1 := hb1.size
  go_wp2_with fail
  obtain ⟨n, hn, hn1, hn2⟩ : ∃ n : Nat, 64 + s0.tmod 200 % 200 = (n : Int) ∧ 64 ≤ n ∧ n ≤ 263 := ⟨(64 + s0.tmod 200 % 200).toNat, by omega, by omega, by omega⟩
  rw [hn]
  clear hn t0 t1
  refine (new_at n w1 hn1 (by omega)).mono ?_
  rintro e w2 ⟨db, nb, mb, rfl, l1, l2, l3, hd2, hb2⟩
  have hs2 := hb2.size
  have hbw2 : Below w.heap.size w w2 := hb1.trans (hb2.mono hs1)
  have hBl := hd2.len
  clear hb1 hb2
  go_wp2_with fail
  refine (wmake_at hd2 (by omega)).mono ?_
  rintro e w7 ⟨code7, pv7, mb7, k7, B7, D7, left7, down7, rfl, hd7, hk7, hm7, hK7, hM7, _, hpv7⟩
  obtain ⟨rfl, hG7⟩ := make_good hBl (by omega) (by simp) fit0 hM7
  obtain ⟨lb, sb, rfl, v1, v2, v3, hL7, hS7, v4, v5⟩ := hpv7 rfl
  clear hpv7
  obtain ⟨rfl, rfl, rfl⟩ : D7 = .map [] ∧ left7 = 0 ∧ down7 = false := ⟨hG7.d, hG7.l, hG7.dn⟩
  have HLog7 : Hid (LogOn n B7 0 [] 0 0) := logon_new hn1 hd7.len (good_told hG7)
  have hs7 := hK7.size
  have hbw7 : Below w.heap.size w w7 := hbw2.trans (hK7.below (by omega) (fun i e => by omega))
  have hdl7 := hd7.dlt
  have hnl7 := hd7.nlt
  have hml7 := hd7.mlt
  have hll7 := hL7.lt
  have hsl7 := hS7.lt
  have hfxy : AllFit [x, y] := fun v hv => by
    simp only [List.mem_cons, List.not_mem_nil, or_false] at hv
    rcases hv with rfl | rfl
    · exact hx
    · exact hy
  clear hM7 hG7 hd2 hbw2 hK7 hBl
  go_wp2_with fail
  refine (reset_calm_at hL7 hd7 hS7 v4 v5 (by omega) HLog7.out x y hfxy).mono ?_
  rintro e w8 ⟨mb8, k8, B8, q8, rfl, hd8, hk8, hm8, hK8, hS8, hL8, hlog8⟩
  have hs8 := hK8.size
  have hbw8 : Below w.heap.size w w8 := hbw7.trans (hK8.below (by omega) (fun i e => by omega))
  have HLog8 : Hid (LogOn n B8 q8 [] x y) := hlog8
  have hc8 := hd8.c0
  have hdl8 := hd8.dlt
  clear hK8 hbw7 hL7 hd7 hS7 HLog7 hlog8 hS8 hfxy
  by_cases hx0 : x = 0
  · subst hx0
    have HGet : Hid (Calls Tryz.prog 13 #[.pointer (some ⟨db, 0, none⟩), .pointer (some ⟨lb, 0, none⟩)] w8 fun e w' => e = .returned (.tuple #[.slice none 0 0, .int .i64 0]) ∧ Below w8.heap.size w8 w') := sget_none hL8 hd8 q8 0 y HLog8.out.tl HLog8.out.al (Nat.zero_le _)
    clear hL8 hd8 HLog8
    go_wp2_with fail
    refine HGet.out.mono ?_
    rintro e w9 ⟨rfl, hb9⟩
    have hbw9 : Below w.heap.size w w9 := hbw8.trans (hb9.mono (by omega))
    clear HGet hb9 hbw8
    go_wp2_with fail
    go_ret
    exact ⟨rfl, hbw9⟩
  · have hxb : (x == 0) = false := by simpa using hx0
    by_cases hbad : badA n x y
    · have HGet : Hid (Calls Tryz.prog 13 #[.pointer (some ⟨db, 0, none⟩), .pointer (some ⟨lb, 0, none⟩)] w8 fun e w' => e = .returned (.tuple #[.slice none 0 0, .int .i64 10]) ∧ Below w8.heap.size w8 w') := sget_bad hL8 hd8 HLog8.out hbad
      have HBad : Hid (badA n x y) := hbad
      clear hL8 hd8 HLog8 hbad hx0
      go_wp2_with fail
      refine HGet.out.mono ?_
      rintro e w9 ⟨rfl, hb9⟩
      have hs9 := hb9.size
      have hbw9 : Below w.heap.size w w9 := hbw8.trans (hb9.mono (by omega))
      have hc9 := (hb9.cell (p := ⟨db, 0, none⟩) hdl8).trans hc8
      clear HGet hb9 hbw8
      rcases HBad.out with ⟨_, h1, h2⟩ | ⟨rfl | rfl, hy' | hy'⟩
      · have e1 : (x != 1) = true := by simpa using h1
        have e2 : (x != 2) = true := by simpa using h2
        clear HBad h1 h2
        go_wp2_with fail
        refine (most_at hc9 (by omega)).mono ?_
        rintro e w10 ⟨rfl, hw10⟩
        subst hw10
        go_wp2_with fail
        go_ret
        exact ⟨rfl, hbw9⟩
      · clear HBad
        go_wp2_with fail
        refine (most_at hc9 (by omega)).mono ?_
        rintro e w10 ⟨rfl, hw10⟩
        subst hw10
        go_wp2_with fail
        go_ret
        exact ⟨rfl, hbw9⟩
      · have hy1 : 0 ≤ y := by omega
        have hy2 : (n : Int) / 4 * 64 < y := by omega
        clear HBad hy'
        go_wp2_with fail
        refine (most_at hc9 (by omega)).mono ?_
        rintro e w10 ⟨rfl, hw10⟩
        subst hw10
        go_wp2_with fail
        go_ret
        exact ⟨rfl, hbw9⟩
      · clear HBad
        go_wp2_with fail
        refine (most_at hc9 (by omega)).mono ?_
        rintro e w10 ⟨rfl, hw10⟩
        subst hw10
        go_wp2_with fail
        go_ret
        exact ⟨rfl, hbw9⟩
      · have hy1 : 0 ≤ y := by omega
        have hy2 : (n : Int) / 4 * 64 < y := by omega
        clear HBad hy'
        go_wp2_with fail
        refine (most_at hc9 (by omega)).mono ?_
        rintro e w10 ⟨rfl, hw10⟩
        subst hw10
        go_wp2_with fail
        go_ret
        exact ⟨rfl, hbw9⟩
    · have hgood : (x = 1 ∨ x = 2) ∧ 0 ≤ y ∧ y ≤ ((n / 4 * 64 : Nat) : Int) := by
        unfold badA at hbad
        by_cases e1 : x = 1
        · exact ⟨Or.inl e1, by omega, by omega⟩
        · by_cases e2 : x = 2
          · exact ⟨Or.inr e2, by omega, by omega⟩
          · exact absurd (Or.inl ⟨hx0, e1, e2⟩) hbad
      obtain ⟨hx12, hy0, hy1⟩ := hgood
      obtain ⟨l, rfl⟩ : ∃ l : Nat, y = (l : Int) := ⟨y.toNat, by omega⟩
      have hB8 := hd8.len
      have HGet : Hid (Calls Tryz.prog 13 #[.pointer (some ⟨db, 0, none⟩), .pointer (some ⟨lb, 0, none⟩)] w8 fun e w' => ∃ p c, e = .returned (.tuple #[.slice p l c, .int .i64 0]) ∧ Below w8.heap.size w8 w') := by
        show Calls _ _ _ _ _
        refine (sget_log_at hL8 hd8 HLog8.out hx12 (by omega) rfl).mono ?_
        rintro e w' ⟨v, rfl, ⟨p, c, rfl, _⟩, hb⟩
        exact ⟨p, c, by rw [cutB_len hB8 (areaAt_fit (by omega))], hb⟩
      have hl2 : (l : Int) ≤ (n : Int) / 4 * 64 := by omega
      clear hL8 hd8 HLog8 hbad hx0 hy0 hy1 hB8
      go_wp2_with fail
      refine HGet.out.mono ?_
      rintro e w9 ⟨p9, c9, rfl, hb9⟩
      have hs9 := hb9.size
      have hbw9 : Below w.heap.size w w9 := hbw8.trans (hb9.mono (by omega))
      have hc9 := (hb9.cell (p := ⟨db, 0, none⟩) hdl8).trans hc8
      clear HGet hb9 hbw8
      rcases hx12 with rfl | rfl
      · go_wp2_with fail
        refine (most_at hc9 (by omega)).mono ?_
        rintro e w10 ⟨rfl, hw10⟩
        subst hw10
        go_wp2_with fail
        go_ret
        exact ⟨by simpa using hl2, hbw9⟩
      · go_wp2_with fail
        refine (most_at hc9 (by omega)).mono ?_
        rintro e w10 ⟨rfl, hw10⟩
        subst hw10
        go_wp2_with fail
        go_ret
        exact ⟨by simpa using hl2, hbw9⟩
end Go.Proofs.YtpepjbgklgjoaaaGreatDoor
