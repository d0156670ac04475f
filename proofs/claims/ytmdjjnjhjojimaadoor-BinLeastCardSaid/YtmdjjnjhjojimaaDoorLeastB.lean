import Derived.Test.YtmdjjnjhjojimaaDoorBegB
import Derived.Test.YtmdjjnjhjojimaaDoorLeastA
namespace Go.Proofs.YtmdjjnjhjojimaaDoor
open Go.RowKit Go.Maps

set_option maxRecDepth 100000 in
set_option maxHeartbeats 2000000 in
theorem binLeast_true (n : Int) (w : World) (h0 : -9223372036854775808 ≤ n) (h1 : n ≤ 9223372036854775807) (hg : w.cell? ⟨0, 0, none⟩ = some errType) :
    Calls Tryd.prog 7 #[.int .i64 n] w fun e w' => e = .returned (.bool true) ∧ Below w.heap.size w w' := by
  go_enter Tryd.func7, Tryd.ntmps7
  go_wp2_with fail
  refine (begun_true w hg).mono ?_
  rintro e w1 ⟨rfl, hb1⟩
  go_wp2_with fail
  have hwC : WrAt ((w1.alloc (.cells #[.slice none 0 0] 55)).alloc (.cells #[.int .i64 n] 2)) w1.heap.size (w1.heap.size + 1) [] none 0 := by
    refine ⟨?_, ?_, World.ownsRow_nil _ _ _ _, by simp, by simp [Value.ownBlock]⟩
    · simp
    · simp
  have hnC : ((w1.alloc (.cells #[.slice none 0 0] 55)).alloc (.cells #[.int .i64 n] 2)).rangeAt (w1.heap.size + 1) 0 ([n].map (Value.int .i64)) := by
    intro j v hv
    have hh := heap_alloc_last (w1.alloc (.cells #[.slice none 0 0] 55)) (.cells #[.int .i64 n] 2)
    rw [show (w1.alloc (.cells #[.slice none 0 0] 55)).heap.size = w1.heap.size + 1 from by simp] at hh
    rw [cell_of_row _ _ (0 + j) _ 2 (0, 0) hh]
    simpa using hv
  have hbC : Below w1.heap.size w1 ((w1.alloc (.cells #[.slice none 0 0] 55)).alloc (.cells #[.int .i64 n] 2)) := ((Below.refl _ _).alloc (Nat.le_refl _) _).alloc (by simp) _
  have hszC : ((w1.alloc (.cells #[.slice none 0 0] 55)).alloc (.cells #[.int .i64 n] 2)).heap.size = w1.heap.size + 1 + 1 := by simp
  generalize (w1.alloc (.cells #[.slice none 0 0] 55)).alloc (.cells #[.int .i64 n] 2) = wC at hwC hnC hbC hszC ⊢
  refine (int_any hwC (w1.heap.size + 1) 0 1 [n] hnC (by omega) (by simp [Value.ownBlock]) (by intro x hx; simp at hx; omega) (by simp)).mono ?_
  rintro e w2 ⟨a2, c2, rfl, hw2, hk2, _⟩
  have hb2 : Below w1.heap.size w1 w2 := hbC.trans (hk2.below hbC.size (fun i e => by rcases e with e | e; omega; simp [Value.ownBlock] at e))
  have hs2 := hk2.size
  have hw2 : WrAt w2 w1.heap.size (w1.heap.size + 1) (encInt n) a2 c2 := by have := hw2; simpa using this
  clear hwC hnC hbC hk2
  have hwl := wid_le8 n h0 h1
  go_wp2_with fail
  refine (wbytes_any hw2 (by rw [encInt_length]; omega)).mono ?_
  rintro e w3 ⟨hb3, ⟨_, x⟩ | ⟨g, c, rfl, r1, hr, r3, r4⟩⟩
  · exact absurd x (by simp [encInt])
  have hbw3 : Below w.heap.size w w3 := (hb1.trans (hb2.mono hb1.size)).trans (hb3.mono (by have := hb1.size; omega))
  have HL : Hid ((encInt n).length = 1 + wid n) := encInt_length n
  rw [HL.out]
  have hcell0 : w3.cell? ⟨g, 0, none⟩ = some (.int .u8 (wid n)) := by
    have := hr 0 (bV (UInt8.ofNat (wid n))) rfl
    rw [bV_wid] at this
    simpa using this
  clear hw2 hb2 hb1 hb3
  have hww := hbw3.size
  go_wp2
  go_loop [6, 7] (fun wt kk => ∃ k q : Nat, 1 ≤ k ∧ k ≤ 9 ∧ kk = .int .i64 k ∧ wt = .int .i64 q ∧ ((q = 0 ∧ (n ≠ 0 → k ≤ wid n) ∧ (n = 0 → k = 1)) ∨ (n ≠ 0 ∧ q = wid n ∧ k = wid n + 1))) (fun _ kk => 9 - (RowKit.intOf kk).toNat)
  case atStart => exact ⟨1, 0, by omega, by omega, rfl, rfl, Or.inl ⟨rfl, fun h => wid_pos n h, fun _ => rfl⟩⟩
  case round =>
    obtain ⟨k, q, hk1, hk9, rfl, rfl, hcase⟩ := hrel
    by_cases hbody : q = 0 ∧ n ≠ 0
    · obtain ⟨rfl, hn⟩ := hbody
      have hkw : k ≤ wid n := by
        rcases hcase with ⟨_, h, _⟩ | ⟨_, h, _⟩
        · exact h hn
        · have := wid_pos n hn; omega
      clear hcase
      have hnb : (n != 0) = true := by simpa using hn
      have hcs : k = 1 ∨ k = 2 ∨ k = 3 ∨ k = 4 ∨ k = 5 ∨ k = 6 ∨ k = 7 ∨ k = 8 := by omega
      rcases hcs with rfl | rfl | rfl | rfl | rfl | rfl | rfl | rfl
      · by_cases hf : fits 1 n
        · have hk : wid n = 1 := by have := wid_of_fits 1 n (by omega) (by omega) hf; omega
          have hf' : -128 ≤ n ∧ n < 128 := by have := hf; unfold fits at this; simp only [Nat.reduceMul, Nat.reduceSub, Int.reducePow] at this; exact this
          obtain ⟨f1, f2⟩ := hf'
          have HK : Hid (wid n = 1) := hk
          clear hf hk hr HL
          go_wp2
          go_round
          case rel => exact ⟨2, 1, by omega, by omega, rfl, rfl, Or.inr ⟨hn, by rw [HK.out], by rw [HK.out]⟩⟩
          case measure => simp [RowKit.intOf]
        · have hk : 1 < wid n := wid_of_not 1 n (by omega) h0 h1 hf
          have hf' : ¬ (-128 ≤ n ∧ n < 128) := by intro x; apply hf; unfold fits; simp only [Nat.reduceMul, Nat.reduceSub, Int.reducePow]; exact x
          have HK : Hid (1 < wid n) := hk
          clear hf hk hr HL
          by_cases f1 : -128 ≤ n
          · have f2 : ¬ n < 128 := fun x => hf' ⟨f1, x⟩
            clear hf'
            go_wp2
            go_round
            case rel => exact ⟨2, 0, by omega, by omega, rfl, rfl, Or.inl ⟨rfl, fun _ => HK.out, fun x => absurd x hn⟩⟩
            case measure => simp [RowKit.intOf]
          · clear hf'
            go_wp2
            go_round
            case rel => exact ⟨2, 0, by omega, by omega, rfl, rfl, Or.inl ⟨rfl, fun _ => HK.out, fun x => absurd x hn⟩⟩
            case measure => simp [RowKit.intOf]
      · by_cases hf : fits 2 n
        · have hk : wid n = 2 := by have := wid_of_fits 2 n (by omega) (by omega) hf; omega
          have hf' : -32768 ≤ n ∧ n < 32768 := by have := hf; unfold fits at this; simp only [Nat.reduceMul, Nat.reduceSub, Int.reducePow] at this; exact this
          obtain ⟨f1, f2⟩ := hf'
          have HK : Hid (wid n = 2) := hk
          clear hf hk hr HL
          go_wp2
          go_round
          case rel => exact ⟨3, 2, by omega, by omega, rfl, rfl, Or.inr ⟨hn, by rw [HK.out], by rw [HK.out]⟩⟩
          case measure => simp [RowKit.intOf]
        · have hk : 2 < wid n := wid_of_not 2 n (by omega) h0 h1 hf
          have hf' : ¬ (-32768 ≤ n ∧ n < 32768) := by intro x; apply hf; unfold fits; simp only [Nat.reduceMul, Nat.reduceSub, Int.reducePow]; exact x
          have HK : Hid (2 < wid n) := hk
          clear hf hk hr HL
          by_cases f1 : -32768 ≤ n
          · have f2 : ¬ n < 32768 := fun x => hf' ⟨f1, x⟩
            clear hf'
            go_wp2
            go_round
            case rel => exact ⟨3, 0, by omega, by omega, rfl, rfl, Or.inl ⟨rfl, fun _ => HK.out, fun x => absurd x hn⟩⟩
            case measure => simp [RowKit.intOf]
          · clear hf'
            go_wp2
            go_round
            case rel => exact ⟨3, 0, by omega, by omega, rfl, rfl, Or.inl ⟨rfl, fun _ => HK.out, fun x => absurd x hn⟩⟩
            case measure => simp [RowKit.intOf]
      · by_cases hf : fits 3 n
        · have hk : wid n = 3 := by have := wid_of_fits 3 n (by omega) (by omega) hf; omega
          have hf' : -8388608 ≤ n ∧ n < 8388608 := by have := hf; unfold fits at this; simp only [Nat.reduceMul, Nat.reduceSub, Int.reducePow] at this; exact this
          obtain ⟨f1, f2⟩ := hf'
          have HK : Hid (wid n = 3) := hk
          clear hf hk hr HL
          go_wp2
          go_round
          case rel => exact ⟨4, 3, by omega, by omega, rfl, rfl, Or.inr ⟨hn, by rw [HK.out], by rw [HK.out]⟩⟩
          case measure => simp [RowKit.intOf]
        · have hk : 3 < wid n := wid_of_not 3 n (by omega) h0 h1 hf
          have hf' : ¬ (-8388608 ≤ n ∧ n < 8388608) := by intro x; apply hf; unfold fits; simp only [Nat.reduceMul, Nat.reduceSub, Int.reducePow]; exact x
          have HK : Hid (3 < wid n) := hk
          clear hf hk hr HL
          by_cases f1 : -8388608 ≤ n
          · have f2 : ¬ n < 8388608 := fun x => hf' ⟨f1, x⟩
            clear hf'
            go_wp2
            go_round
            case rel => exact ⟨4, 0, by omega, by omega, rfl, rfl, Or.inl ⟨rfl, fun _ => HK.out, fun x => absurd x hn⟩⟩
            case measure => simp [RowKit.intOf]
          · clear hf'
            go_wp2
            go_round
            case rel => exact ⟨4, 0, by omega, by omega, rfl, rfl, Or.inl ⟨rfl, fun _ => HK.out, fun x => absurd x hn⟩⟩
            case measure => simp [RowKit.intOf]
      · by_cases hf : fits 4 n
        · have hk : wid n = 4 := by have := wid_of_fits 4 n (by omega) (by omega) hf; omega
          have hf' : -2147483648 ≤ n ∧ n < 2147483648 := by have := hf; unfold fits at this; simp only [Nat.reduceMul, Nat.reduceSub, Int.reducePow] at this; exact this
          obtain ⟨f1, f2⟩ := hf'
          have HK : Hid (wid n = 4) := hk
          clear hf hk hr HL
          go_wp2
          go_round
          case rel => exact ⟨5, 4, by omega, by omega, rfl, rfl, Or.inr ⟨hn, by rw [HK.out], by rw [HK.out]⟩⟩
          case measure => simp [RowKit.intOf]
        · have hk : 4 < wid n := wid_of_not 4 n (by omega) h0 h1 hf
          have hf' : ¬ (-2147483648 ≤ n ∧ n < 2147483648) := by intro x; apply hf; unfold fits; simp only [Nat.reduceMul, Nat.reduceSub, Int.reducePow]; exact x
          have HK : Hid (4 < wid n) := hk
          clear hf hk hr HL
          by_cases f1 : -2147483648 ≤ n
          · have f2 : ¬ n < 2147483648 := fun x => hf' ⟨f1, x⟩
            clear hf'
            go_wp2
            go_round
            case rel => exact ⟨5, 0, by omega, by omega, rfl, rfl, Or.inl ⟨rfl, fun _ => HK.out, fun x => absurd x hn⟩⟩
            case measure => simp [RowKit.intOf]
          · clear hf'
            go_wp2
            go_round
            case rel => exact ⟨5, 0, by omega, by omega, rfl, rfl, Or.inl ⟨rfl, fun _ => HK.out, fun x => absurd x hn⟩⟩
            case measure => simp [RowKit.intOf]
      · by_cases hf : fits 5 n
        · have hk : wid n = 5 := by have := wid_of_fits 5 n (by omega) (by omega) hf; omega
          have hf' : -549755813888 ≤ n ∧ n < 549755813888 := by have := hf; unfold fits at this; simp only [Nat.reduceMul, Nat.reduceSub, Int.reducePow] at this; exact this
          obtain ⟨f1, f2⟩ := hf'
          have HK : Hid (wid n = 5) := hk
          clear hf hk hr HL
          go_wp2
          go_round
          case rel => exact ⟨6, 5, by omega, by omega, rfl, rfl, Or.inr ⟨hn, by rw [HK.out], by rw [HK.out]⟩⟩
          case measure => simp [RowKit.intOf]
        · have hk : 5 < wid n := wid_of_not 5 n (by omega) h0 h1 hf
          have hf' : ¬ (-549755813888 ≤ n ∧ n < 549755813888) := by intro x; apply hf; unfold fits; simp only [Nat.reduceMul, Nat.reduceSub, Int.reducePow]; exact x
          have HK : Hid (5 < wid n) := hk
          clear hf hk hr HL
          by_cases f1 : -549755813888 ≤ n
          · have f2 : ¬ n < 549755813888 := fun x => hf' ⟨f1, x⟩
            clear hf'
            go_wp2
            go_round
            case rel => exact ⟨6, 0, by omega, by omega, rfl, rfl, Or.inl ⟨rfl, fun _ => HK.out, fun x => absurd x hn⟩⟩
            case measure => simp [RowKit.intOf]
          · clear hf'
            go_wp2
            go_round
            case rel => exact ⟨6, 0, by omega, by omega, rfl, rfl, Or.inl ⟨rfl, fun _ => HK.out, fun x => absurd x hn⟩⟩
            case measure => simp [RowKit.intOf]
      · by_cases hf : fits 6 n
        · have hk : wid n = 6 := by have := wid_of_fits 6 n (by omega) (by omega) hf; omega
          have hf' : -140737488355328 ≤ n ∧ n < 140737488355328 := by have := hf; unfold fits at this; simp only [Nat.reduceMul, Nat.reduceSub, Int.reducePow] at this; exact this
          obtain ⟨f1, f2⟩ := hf'
          have HK : Hid (wid n = 6) := hk
          clear hf hk hr HL
          go_wp2
          go_round
          case rel => exact ⟨7, 6, by omega, by omega, rfl, rfl, Or.inr ⟨hn, by rw [HK.out], by rw [HK.out]⟩⟩
          case measure => simp [RowKit.intOf]
        · have hk : 6 < wid n := wid_of_not 6 n (by omega) h0 h1 hf
          have hf' : ¬ (-140737488355328 ≤ n ∧ n < 140737488355328) := by intro x; apply hf; unfold fits; simp only [Nat.reduceMul, Nat.reduceSub, Int.reducePow]; exact x
          have HK : Hid (6 < wid n) := hk
          clear hf hk hr HL
          by_cases f1 : -140737488355328 ≤ n
          · have f2 : ¬ n < 140737488355328 := fun x => hf' ⟨f1, x⟩
            clear hf'
            go_wp2
            go_round
            case rel => exact ⟨7, 0, by omega, by omega, rfl, rfl, Or.inl ⟨rfl, fun _ => HK.out, fun x => absurd x hn⟩⟩
            case measure => simp [RowKit.intOf]
          · clear hf'
            go_wp2
            go_round
            case rel => exact ⟨7, 0, by omega, by omega, rfl, rfl, Or.inl ⟨rfl, fun _ => HK.out, fun x => absurd x hn⟩⟩
            case measure => simp [RowKit.intOf]
      · by_cases hf : fits 7 n
        · have hk : wid n = 7 := by have := wid_of_fits 7 n (by omega) (by omega) hf; omega
          have hf' : -36028797018963968 ≤ n ∧ n < 36028797018963968 := by have := hf; unfold fits at this; simp only [Nat.reduceMul, Nat.reduceSub, Int.reducePow] at this; exact this
          obtain ⟨f1, f2⟩ := hf'
          have HK : Hid (wid n = 7) := hk
          clear hf hk hr HL
          go_wp2
          go_round
          case rel => exact ⟨8, 7, by omega, by omega, rfl, rfl, Or.inr ⟨hn, by rw [HK.out], by rw [HK.out]⟩⟩
          case measure => simp [RowKit.intOf]
        · have hk : 7 < wid n := wid_of_not 7 n (by omega) h0 h1 hf
          have hf' : ¬ (-36028797018963968 ≤ n ∧ n < 36028797018963968) := by intro x; apply hf; unfold fits; simp only [Nat.reduceMul, Nat.reduceSub, Int.reducePow]; exact x
          have HK : Hid (7 < wid n) := hk
          clear hf hk hr HL
          by_cases f1 : -36028797018963968 ≤ n
          · have f2 : ¬ n < 36028797018963968 := fun x => hf' ⟨f1, x⟩
            clear hf'
            go_wp2
            go_round
            case rel => exact ⟨8, 0, by omega, by omega, rfl, rfl, Or.inl ⟨rfl, fun _ => HK.out, fun x => absurd x hn⟩⟩
            case measure => simp [RowKit.intOf]
          · clear hf'
            go_wp2
            go_round
            case rel => exact ⟨8, 0, by omega, by omega, rfl, rfl, Or.inl ⟨rfl, fun _ => HK.out, fun x => absurd x hn⟩⟩
            case measure => simp [RowKit.intOf]
      · have hk : wid n = 8 := by omega
        have HK : Hid (wid n = 8) := hk
        clear hk hr HL
        go_wp2
        go_round
        case rel => exact ⟨9, 8, by omega, by omega, rfl, rfl, Or.inr ⟨hn, by rw [HK.out], by rw [HK.out]⟩⟩
        case measure => simp [RowKit.intOf]
    · have hq : q = wid n := by
        rcases hcase with ⟨h, h2, h3⟩ | ⟨_, h, _⟩
        · have : n = 0 := Classical.byContradiction (fun x => hbody ⟨h, x⟩)
          subst this; rw [h]; rfl
        · exact h
      subst hq
      have hx : (n = 0 ∧ k = 1) ∨ (wid n ≠ 0 ∧ k ≤ 8) ∨ (wid n ≠ 0 ∧ k = 9) := by
        rcases hcase with ⟨h, h2, h3⟩ | ⟨h, _, h3⟩
        · left; have e0 : n = 0 := Classical.byContradiction (fun x => hbody ⟨h, x⟩)
          exact ⟨e0, h3 e0⟩
        · have := wid_pos n h; omega
      clear hcase hbody
      rcases hx with ⟨hx, rfl⟩ | ⟨hx1, hx2⟩ | ⟨hx1, rfl⟩
      · have hnb : (n != 0) = false := by simpa using hx
        have hwb : ((wid n : Int) == 0) = true := by rw [hx]; rfl
        clear hx
        clear hk1 hk9
        have ht1 : (1 + (wid n : Int) != (wid n : Int) + 1) = false := by simp; omega
        have ht2 : ((wid n : Int) != (wid n : Int)) = false := by simp
        by_cases h8 : wid n = 8
        · have ht3 : ((wid n : Int) == 8) = true := by simp; omega
          clear hr h8
          go_wp2
          go_ret
          exact ⟨rfl, hbw3⟩
        · have ht3 : ((wid n : Int) == 8) = false := by simp; omega
          have hw7 : wid n < 8 := by omega
          have HR : Hid (w3.rangeAt g 0 (bytesV (encInt n))) := hr
          clear hr h8
          go_wp2_with (at_builtin; refine wpList_append_b rfl _ _ rfl w3.heap.size (.slice none 0 0) 0 [] rfl (World.ownsRow_nil _ _ _ _) ⟨g, 0, none⟩ (1 + wid n) c (bytesV (encInt n)) rfl ?q1af ?q2af ?q3af ?q4af ?q5af (Nat.le_refl _) ?_)
          case q1af => rw [bytesV_length, encInt_length]
          case q2af => omega
          case q3af => intro j u hj; have := HR.out j u hj; simpa using this
          case q4af => exact bytesV_one _
          case q5af => omega
          intro g1 c1 w4 hrow4 hg4
          have hb4 : Below w.heap.size w w4 := hbw3.grown hg4 hww (fun k e => by simp [Value.ownBlock] at e)
          obtain ⟨b1, b2, b3, b4, b5⟩ := row_base hrow4
          have hcell : w4.cell? ⟨g1, 0, none⟩ = some (.int .u8 (wid n)) := by
            have := b3 0 (bV (UInt8.ofNat (wid n))) rfl
            rw [bV_wid] at this
            simpa using this
          have hfz := b5 0
          have hs4 := hg4.size
          have hu8 : IntKind.u8.wrap ((wid n : Int) + 1) = (wid n : Int) + 1 := by rw [u8_wrap]; omega
          have hrow5 : (w4.setCell ⟨g1, 0, none⟩ (.int .u8 ((wid n : Int) + 1))).ownsRow w3.heap.size 5 1 (.slice (some ⟨g1, 0, none⟩) (1 + wid n) c1) (1 + wid n) (.int .u8 ((wid n : Int) + 1) :: bytesV (encTo n (wid n))) := row_set0 hrow4
          have HR5 : Hid ((w4.setCell ⟨g1, 0, none⟩ (.int .u8 ((wid n : Int) + 1))).ownsRow w3.heap.size 5 1 (.slice (some ⟨g1, 0, none⟩) (1 + wid n) c1) (1 + wid n) (.int .u8 ((wid n : Int) + 1) :: bytesV (encTo n (wid n)))) := hrow5
          have hb5 : Below w.heap.size w (w4.setCell ⟨g1, 0, none⟩ (.int .u8 ((wid n : Int) + 1))) := hb4.setCell (by show w.heap.size ≤ g1; omega) _
          have hsz5 : (w4.setCell ⟨g1, 0, none⟩ (.int .u8 ((wid n : Int) + 1))).heap.size = w4.heap.size := by simp [World.setCell]
          clear hrow5 hrow4 hg4 b3 b4 b5 hcell0
          by_cases hneg : n < 0
          · go_wp2_with (at_builtin; (refine wpList_append_b rfl _ _ rfl w3.heap.size (.slice (some ⟨g1, 0, none⟩) (1 + wid n) c1) (1 + wid n) _ rfl (HR5.out.alloc _) ⟨w4.heap.size, 0, none⟩ 1 1 [.int .u8 255] rfl rfl (by decide) ?q3an ?q4an ?q5an ?q6an ?_))
            case q3an =>
              intro j u hj
              have hh := heap_alloc_last (w4.setCell ⟨g1, 0, none⟩ (.int .u8 ((wid n : Int) + 1))) (.cells #[.int .u8 255] 5)
              rw [hsz5] at hh
              rcases j with _ | j
              · have hc0 := cell_of_row _ w4.heap.size 0 _ 5 (0, 0) hh
                simp at hj
                subst hj
                rw [Addr.add_mid]
                simpa using hc0
              · simp at hj
            case q4an => first | rfl | (intro u hu; simp only [List.mem_singleton] at hu; subst hu; rfl)
            case q5an => omega
            case q6an => first | omega | (simp; omega)
            intro g2 c2 w6 hrow6 hg6
            have hb6 : Below w.heap.size w w6 := by
              refine (hb5.alloc hb5.size _).grown hg6 (by have := hb5.size; simp; omega) (fun k e => ?_)
              simp [Value.ownBlock] at e
              omega
            have hs6 := hb6.size
            obtain ⟨d1, d2, d3, d4, d5⟩ := row_base hrow6
            have hrl : w6.rangeAt g2 0 (bytesV (UInt8.ofNat (wid n + 1) :: (encTo n (wid n) ++ [255]))) := by
              have e : bytesV (UInt8.ofNat (wid n + 1) :: (encTo n (wid n) ++ [255])) = Value.int .u8 ((wid n : Int) + 1) :: (bytesV (encTo n (wid n)) ++ [Value.int .u8 255]) := by
                have e1 : bV (UInt8.ofNat (wid n + 1)) = .int .u8 ((wid n : Int) + 1) := by
                  have hx : (UInt8.ofNat (wid n + 1)).toNat = wid n + 1 := by simp [UInt8.toNat_ofNat']; omega
                  simp only [bV, hx]; rfl
                rw [← e1]; simp [bytesV, bV]
              rw [e]; simpa using d3
            have HD : Hid (w6.rangeAt g2 0 (bytesV (UInt8.ofNat (wid n + 1) :: (encTo n (wid n) ++ [255])))) := hrl
            have HRd : Hid (rdInt (UInt8.ofNat (wid n + 1) :: (encTo n (wid n) ++ [255])) 0 = (0, [], 1)) := rd_long n h0 h1 hw7 255 (by rw [if_pos hneg])
            clear hrl d3 hrow6 hg6 HR5 HR d5
            go_wp2_with fail
            refine (newreader_len g2 0 c2 (1 + wid n + 1) (UInt8.ofNat (wid n + 1) :: (encTo n (wid n) ++ [255])) w6 (by simp [encTo_length]; omega) (by omega) HD.out).mono ?_
            rintro e w7 ⟨rb, a7, c7, rfl, t1, hrd7, hb7⟩
            have hb7' : Below w.heap.size w w7 := hb6.trans (hb7.mono hs6)
            go_wp2_with fail
            have hri := rint_any hrd7
            rw [HRd.out] at hri
            refine hri.mono ?_
            rintro e w8 ⟨a8, c8, rfl, hrd8, hk8, _⟩
            have hb8 : Below w.heap.size w w8 := hb7'.trans (hk8.below hb7'.size (fun i e => by omega))
            clear hri hrd7 HRd HD
            go_wp2_with (go_at_call 34; refine (rerr_cell rb 1 _ hrd8.c1).mono ?_; rintro e w9 ⟨rfl, hw⟩; obtain rfl := hw.symm)
            go_ret
            exact ⟨rfl, hb8⟩
          · go_wp2_with (at_builtin; (refine wpList_append_b rfl _ _ rfl w3.heap.size (.slice (some ⟨g1, 0, none⟩) (1 + wid n) c1) (1 + wid n) _ rfl (HR5.out.alloc _) ⟨w4.heap.size, 0, none⟩ 1 1 [.int .u8 0] rfl rfl (by decide) ?q3ap ?q4ap ?q5ap ?q6ap ?_))
            case q4ap => first | rfl | (intro u hu; simp only [List.mem_singleton] at hu; subst hu; rfl)
            case q5ap => omega
            case q6ap => first | omega | (simp; omega)
            intro g2 c2 w6 hrow6 hg6
            have hb6 : Below w.heap.size w w6 := by
              refine (hb5.alloc hb5.size _).grown hg6 (by have := hb5.size; simp; omega) (fun k e => ?_)
              simp [Value.ownBlock] at e
              omega
            have hs6 := hb6.size
            obtain ⟨d1, d2, d3, d4, d5⟩ := row_base hrow6
            have hrl : w6.rangeAt g2 0 (bytesV (UInt8.ofNat (wid n + 1) :: (encTo n (wid n) ++ [0]))) := by
              have e : bytesV (UInt8.ofNat (wid n + 1) :: (encTo n (wid n) ++ [0])) = Value.int .u8 ((wid n : Int) + 1) :: (bytesV (encTo n (wid n)) ++ [Value.int .u8 0]) := by
                have e1 : bV (UInt8.ofNat (wid n + 1)) = .int .u8 ((wid n : Int) + 1) := by
                  have hx : (UInt8.ofNat (wid n + 1)).toNat = wid n + 1 := by simp [UInt8.toNat_ofNat']; omega
                  simp only [bV, hx]; rfl
                rw [← e1]; simp [bytesV, bV]
              rw [e]; simpa using d3
            have HD : Hid (w6.rangeAt g2 0 (bytesV (UInt8.ofNat (wid n + 1) :: (encTo n (wid n) ++ [0])))) := hrl
            have HRd : Hid (rdInt (UInt8.ofNat (wid n + 1) :: (encTo n (wid n) ++ [0])) 0 = (0, [], 1)) := rd_long n h0 h1 hw7 0 (by rw [if_neg (by omega)])
            clear hrl d3 hrow6 hg6 HR5 HR d5
            go_wp2_with fail
            refine (newreader_len g2 0 c2 (1 + wid n + 1) (UInt8.ofNat (wid n + 1) :: (encTo n (wid n) ++ [0])) w6 (by simp [encTo_length]; omega) (by omega) HD.out).mono ?_
            rintro e w7 ⟨rb, a7, c7, rfl, t1, hrd7, hb7⟩
            have hb7' : Below w.heap.size w w7 := hb6.trans (hb7.mono hs6)
            go_wp2_with fail
            have hri := rint_any hrd7
            rw [HRd.out] at hri
            refine hri.mono ?_
            rintro e w8 ⟨a8, c8, rfl, hrd8, hk8, _⟩
            have hb8 : Below w.heap.size w w8 := hb7'.trans (hk8.below hb7'.size (fun i e => by omega))
            clear hri hrd7 HRd HD
            go_wp2_with (go_at_call 34; refine (rerr_cell rb 1 _ hrd8.c1).mono ?_; rintro e w9 ⟨rfl, hw⟩; obtain rfl := hw.symm)
            go_ret
            exact ⟨rfl, hb8⟩
      · have hwb : ((wid n : Int) == 0) = false := by simp; omega
        clear hx1
        clear hk1 hk9
        have ht1 : (1 + (wid n : Int) != (wid n : Int) + 1) = false := by simp; omega
        have ht2 : ((wid n : Int) != (wid n : Int)) = false := by simp
        by_cases h8 : wid n = 8
        · have ht3 : ((wid n : Int) == 8) = true := by simp; omega
          clear hr h8
          go_wp2
          go_ret
          exact ⟨rfl, hbw3⟩
        · have ht3 : ((wid n : Int) == 8) = false := by simp; omega
          have hw7 : wid n < 8 := by omega
          have HR : Hid (w3.rangeAt g 0 (bytesV (encInt n))) := hr
          clear hr h8
          go_wp2_with (at_builtin; refine wpList_append_b rfl _ _ rfl w3.heap.size (.slice none 0 0) 0 [] rfl (World.ownsRow_nil _ _ _ _) ⟨g, 0, none⟩ (1 + wid n) c (bytesV (encInt n)) rfl ?q1bf ?q2bf ?q3bf ?q4bf ?q5bf (Nat.le_refl _) ?_)
          case q1bf => rw [bytesV_length, encInt_length]
          case q2bf => omega
          case q3bf => intro j u hj; have := HR.out j u hj; simpa using this
          case q4bf => exact bytesV_one _
          case q5bf => omega
          intro g1 c1 w4 hrow4 hg4
          have hb4 : Below w.heap.size w w4 := hbw3.grown hg4 hww (fun k e => by simp [Value.ownBlock] at e)
          obtain ⟨b1, b2, b3, b4, b5⟩ := row_base hrow4
          have hcell : w4.cell? ⟨g1, 0, none⟩ = some (.int .u8 (wid n)) := by
            have := b3 0 (bV (UInt8.ofNat (wid n))) rfl
            rw [bV_wid] at this
            simpa using this
          have hfz := b5 0
          have hs4 := hg4.size
          have hu8 : IntKind.u8.wrap ((wid n : Int) + 1) = (wid n : Int) + 1 := by rw [u8_wrap]; omega
          have hrow5 : (w4.setCell ⟨g1, 0, none⟩ (.int .u8 ((wid n : Int) + 1))).ownsRow w3.heap.size 5 1 (.slice (some ⟨g1, 0, none⟩) (1 + wid n) c1) (1 + wid n) (.int .u8 ((wid n : Int) + 1) :: bytesV (encTo n (wid n))) := row_set0 hrow4
          have HR5 : Hid ((w4.setCell ⟨g1, 0, none⟩ (.int .u8 ((wid n : Int) + 1))).ownsRow w3.heap.size 5 1 (.slice (some ⟨g1, 0, none⟩) (1 + wid n) c1) (1 + wid n) (.int .u8 ((wid n : Int) + 1) :: bytesV (encTo n (wid n)))) := hrow5
          have hb5 : Below w.heap.size w (w4.setCell ⟨g1, 0, none⟩ (.int .u8 ((wid n : Int) + 1))) := hb4.setCell (by show w.heap.size ≤ g1; omega) _
          have hsz5 : (w4.setCell ⟨g1, 0, none⟩ (.int .u8 ((wid n : Int) + 1))).heap.size = w4.heap.size := by simp [World.setCell]
          clear hrow5 hrow4 hg4 b3 b4 b5 hcell0
          by_cases hneg : n < 0
          · go_wp2_with (at_builtin; (refine wpList_append_b rfl _ _ rfl w3.heap.size (.slice (some ⟨g1, 0, none⟩) (1 + wid n) c1) (1 + wid n) _ rfl (HR5.out.alloc _) ⟨w4.heap.size, 0, none⟩ 1 1 [.int .u8 255] rfl rfl (by decide) ?q3bn ?q4bn ?q5bn ?q6bn ?_))
            case q3bn =>
              intro j u hj
              have hh := heap_alloc_last (w4.setCell ⟨g1, 0, none⟩ (.int .u8 ((wid n : Int) + 1))) (.cells #[.int .u8 255] 5)
              rw [hsz5] at hh
              rcases j with _ | j
              · have hc0 := cell_of_row _ w4.heap.size 0 _ 5 (0, 0) hh
                simp at hj
                subst hj
                rw [Addr.add_mid]
                simpa using hc0
              · simp at hj
            case q4bn => first | rfl | (intro u hu; simp only [List.mem_singleton] at hu; subst hu; rfl)
            case q5bn => omega
            case q6bn => first | omega | (simp; omega)
            intro g2 c2 w6 hrow6 hg6
            have hb6 : Below w.heap.size w w6 := by
              refine (hb5.alloc hb5.size _).grown hg6 (by have := hb5.size; simp; omega) (fun k e => ?_)
              simp [Value.ownBlock] at e
              omega
            have hs6 := hb6.size
            obtain ⟨d1, d2, d3, d4, d5⟩ := row_base hrow6
            have hrl : w6.rangeAt g2 0 (bytesV (UInt8.ofNat (wid n + 1) :: (encTo n (wid n) ++ [255]))) := by
              have e : bytesV (UInt8.ofNat (wid n + 1) :: (encTo n (wid n) ++ [255])) = Value.int .u8 ((wid n : Int) + 1) :: (bytesV (encTo n (wid n)) ++ [Value.int .u8 255]) := by
                have e1 : bV (UInt8.ofNat (wid n + 1)) = .int .u8 ((wid n : Int) + 1) := by
                  have hx : (UInt8.ofNat (wid n + 1)).toNat = wid n + 1 := by simp [UInt8.toNat_ofNat']; omega
                  simp only [bV, hx]; rfl
                rw [← e1]; simp [bytesV, bV]
              rw [e]; simpa using d3
            have HD : Hid (w6.rangeAt g2 0 (bytesV (UInt8.ofNat (wid n + 1) :: (encTo n (wid n) ++ [255])))) := hrl
            have HRd : Hid (rdInt (UInt8.ofNat (wid n + 1) :: (encTo n (wid n) ++ [255])) 0 = (0, [], 1)) := rd_long n h0 h1 hw7 255 (by rw [if_pos hneg])
            clear hrl d3 hrow6 hg6 HR5 HR d5
            go_wp2_with fail
            refine (newreader_len g2 0 c2 (1 + wid n + 1) (UInt8.ofNat (wid n + 1) :: (encTo n (wid n) ++ [255])) w6 (by simp [encTo_length]; omega) (by omega) HD.out).mono ?_
            rintro e w7 ⟨rb, a7, c7, rfl, t1, hrd7, hb7⟩
            have hb7' : Below w.heap.size w w7 := hb6.trans (hb7.mono hs6)
            go_wp2_with fail
            have hri := rint_any hrd7
            rw [HRd.out] at hri
            refine hri.mono ?_
            rintro e w8 ⟨a8, c8, rfl, hrd8, hk8, _⟩
            have hb8 : Below w.heap.size w w8 := hb7'.trans (hk8.below hb7'.size (fun i e => by omega))
            clear hri hrd7 HRd HD
            go_wp2_with (go_at_call 34; refine (rerr_cell rb 1 _ hrd8.c1).mono ?_; rintro e w9 ⟨rfl, hw⟩; obtain rfl := hw.symm)
            go_ret
            exact ⟨rfl, hb8⟩
          · go_wp2_with (at_builtin; (refine wpList_append_b rfl _ _ rfl w3.heap.size (.slice (some ⟨g1, 0, none⟩) (1 + wid n) c1) (1 + wid n) _ rfl (HR5.out.alloc _) ⟨w4.heap.size, 0, none⟩ 1 1 [.int .u8 0] rfl rfl (by decide) ?q3bp ?q4bp ?q5bp ?q6bp ?_))
            case q4bp => first | rfl | (intro u hu; simp only [List.mem_singleton] at hu; subst hu; rfl)
            case q5bp => omega
            case q6bp => first | omega | (simp; omega)
            intro g2 c2 w6 hrow6 hg6
            have hb6 : Below w.heap.size w w6 := by
              refine (hb5.alloc hb5.size _).grown hg6 (by have := hb5.size; simp; omega) (fun k e => ?_)
              simp [Value.ownBlock] at e
              omega
            have hs6 := hb6.size
            obtain ⟨d1, d2, d3, d4, d5⟩ := row_base hrow6
            have hrl : w6.rangeAt g2 0 (bytesV (UInt8.ofNat (wid n + 1) :: (encTo n (wid n) ++ [0]))) := by
              have e : bytesV (UInt8.ofNat (wid n + 1) :: (encTo n (wid n) ++ [0])) = Value.int .u8 ((wid n : Int) + 1) :: (bytesV (encTo n (wid n)) ++ [Value.int .u8 0]) := by
                have e1 : bV (UInt8.ofNat (wid n + 1)) = .int .u8 ((wid n : Int) + 1) := by
                  have hx : (UInt8.ofNat (wid n + 1)).toNat = wid n + 1 := by simp [UInt8.toNat_ofNat']; omega
                  simp only [bV, hx]; rfl
                rw [← e1]; simp [bytesV, bV]
              rw [e]; simpa using d3
            have HD : Hid (w6.rangeAt g2 0 (bytesV (UInt8.ofNat (wid n + 1) :: (encTo n (wid n) ++ [0])))) := hrl
            have HRd : Hid (rdInt (UInt8.ofNat (wid n + 1) :: (encTo n (wid n) ++ [0])) 0 = (0, [], 1)) := rd_long n h0 h1 hw7 0 (by rw [if_neg (by omega)])
            clear hrl d3 hrow6 hg6 HR5 HR d5
            go_wp2_with fail
            refine (newreader_len g2 0 c2 (1 + wid n + 1) (UInt8.ofNat (wid n + 1) :: (encTo n (wid n) ++ [0])) w6 (by simp [encTo_length]; omega) (by omega) HD.out).mono ?_
            rintro e w7 ⟨rb, a7, c7, rfl, t1, hrd7, hb7⟩
            have hb7' : Below w.heap.size w w7 := hb6.trans (hb7.mono hs6)
            go_wp2_with fail
            have hri := rint_any hrd7
            rw [HRd.out] at hri
            refine hri.mono ?_
            rintro e w8 ⟨a8, c8, rfl, hrd8, hk8, _⟩
            have hb8 : Below w.heap.size w w8 := hb7'.trans (hk8.below hb7'.size (fun i e => by omega))
            clear hri hrd7 HRd HD
            go_wp2_with (go_at_call 34; refine (rerr_cell rb 1 _ hrd8.c1).mono ?_; rintro e w9 ⟨rfl, hw⟩; obtain rfl := hw.symm)
            go_ret
            exact ⟨rfl, hb8⟩
      · have hwb : ((wid n : Int) == 0) = false := by simp; omega
        clear hx1
        clear hk1 hk9
        have ht1 : (1 + (wid n : Int) != (wid n : Int) + 1) = false := by simp; omega
        have ht2 : ((wid n : Int) != (wid n : Int)) = false := by simp
        by_cases h8 : wid n = 8
        · have ht3 : ((wid n : Int) == 8) = true := by simp; omega
          clear hr h8
          go_wp2
          go_ret
          exact ⟨rfl, hbw3⟩
        · have ht3 : ((wid n : Int) == 8) = false := by simp; omega
          have hw7 : wid n < 8 := by omega
          have HR : Hid (w3.rangeAt g 0 (bytesV (encInt n))) := hr
          clear hr h8
          go_wp2_with (at_builtin; refine wpList_append_b rfl _ _ rfl w3.heap.size (.slice none 0 0) 0 [] rfl (World.ownsRow_nil _ _ _ _) ⟨g, 0, none⟩ (1 + wid n) c (bytesV (encInt n)) rfl ?q1cf ?q2cf ?q3cf ?q4cf ?q5cf (Nat.le_refl _) ?_)
          case q1cf => rw [bytesV_length, encInt_length]
          case q2cf => omega
          case q3cf => intro j u hj; have := HR.out j u hj; simpa using this
          case q4cf => exact bytesV_one _
          case q5cf => omega
          intro g1 c1 w4 hrow4 hg4
          have hb4 : Below w.heap.size w w4 := hbw3.grown hg4 hww (fun k e => by simp [Value.ownBlock] at e)
          obtain ⟨b1, b2, b3, b4, b5⟩ := row_base hrow4
          have hcell : w4.cell? ⟨g1, 0, none⟩ = some (.int .u8 (wid n)) := by
            have := b3 0 (bV (UInt8.ofNat (wid n))) rfl
            rw [bV_wid] at this
            simpa using this
          have hfz := b5 0
          have hs4 := hg4.size
          have hu8 : IntKind.u8.wrap ((wid n : Int) + 1) = (wid n : Int) + 1 := by rw [u8_wrap]; omega
          have hrow5 : (w4.setCell ⟨g1, 0, none⟩ (.int .u8 ((wid n : Int) + 1))).ownsRow w3.heap.size 5 1 (.slice (some ⟨g1, 0, none⟩) (1 + wid n) c1) (1 + wid n) (.int .u8 ((wid n : Int) + 1) :: bytesV (encTo n (wid n))) := row_set0 hrow4
          have HR5 : Hid ((w4.setCell ⟨g1, 0, none⟩ (.int .u8 ((wid n : Int) + 1))).ownsRow w3.heap.size 5 1 (.slice (some ⟨g1, 0, none⟩) (1 + wid n) c1) (1 + wid n) (.int .u8 ((wid n : Int) + 1) :: bytesV (encTo n (wid n)))) := hrow5
          have hb5 : Below w.heap.size w (w4.setCell ⟨g1, 0, none⟩ (.int .u8 ((wid n : Int) + 1))) := hb4.setCell (by show w.heap.size ≤ g1; omega) _
          have hsz5 : (w4.setCell ⟨g1, 0, none⟩ (.int .u8 ((wid n : Int) + 1))).heap.size = w4.heap.size := by simp [World.setCell]
          clear hrow5 hrow4 hg4 b3 b4 b5 hcell0
          by_cases hneg : n < 0
          · go_wp2_with (at_builtin; (refine wpList_append_b rfl _ _ rfl w3.heap.size (.slice (some ⟨g1, 0, none⟩) (1 + wid n) c1) (1 + wid n) _ rfl (HR5.out.alloc _) ⟨w4.heap.size, 0, none⟩ 1 1 [.int .u8 255] rfl rfl (by decide) ?q3cn ?q4cn ?q5cn ?q6cn ?_))
            case q3cn =>
              intro j u hj
              have hh := heap_alloc_last (w4.setCell ⟨g1, 0, none⟩ (.int .u8 ((wid n : Int) + 1))) (.cells #[.int .u8 255] 5)
              rw [hsz5] at hh
              rcases j with _ | j
              · have hc0 := cell_of_row _ w4.heap.size 0 _ 5 (0, 0) hh
                simp at hj
                subst hj
                rw [Addr.add_mid]
                simpa using hc0
              · simp at hj
            case q4cn => first | rfl | (intro u hu; simp only [List.mem_singleton] at hu; subst hu; rfl)
            case q5cn => omega
            case q6cn => first | omega | (simp; omega)
            intro g2 c2 w6 hrow6 hg6
            have hb6 : Below w.heap.size w w6 := by
              refine (hb5.alloc hb5.size _).grown hg6 (by have := hb5.size; simp; omega) (fun k e => ?_)
              simp [Value.ownBlock] at e
              omega
            have hs6 := hb6.size
            obtain ⟨d1, d2, d3, d4, d5⟩ := row_base hrow6
            have hrl : w6.rangeAt g2 0 (bytesV (UInt8.ofNat (wid n + 1) :: (encTo n (wid n) ++ [255]))) := by
              have e : bytesV (UInt8.ofNat (wid n + 1) :: (encTo n (wid n) ++ [255])) = Value.int .u8 ((wid n : Int) + 1) :: (bytesV (encTo n (wid n)) ++ [Value.int .u8 255]) := by
                have e1 : bV (UInt8.ofNat (wid n + 1)) = .int .u8 ((wid n : Int) + 1) := by
                  have hx : (UInt8.ofNat (wid n + 1)).toNat = wid n + 1 := by simp [UInt8.toNat_ofNat']; omega
                  simp only [bV, hx]; rfl
                rw [← e1]; simp [bytesV, bV]
              rw [e]; simpa using d3
            have HD : Hid (w6.rangeAt g2 0 (bytesV (UInt8.ofNat (wid n + 1) :: (encTo n (wid n) ++ [255])))) := hrl
            have HRd : Hid (rdInt (UInt8.ofNat (wid n + 1) :: (encTo n (wid n) ++ [255])) 0 = (0, [], 1)) := rd_long n h0 h1 hw7 255 (by rw [if_pos hneg])
            clear hrl d3 hrow6 hg6 HR5 HR d5
            go_wp2_with fail
            refine (newreader_len g2 0 c2 (1 + wid n + 1) (UInt8.ofNat (wid n + 1) :: (encTo n (wid n) ++ [255])) w6 (by simp [encTo_length]; omega) (by omega) HD.out).mono ?_
            rintro e w7 ⟨rb, a7, c7, rfl, t1, hrd7, hb7⟩
            have hb7' : Below w.heap.size w w7 := hb6.trans (hb7.mono hs6)
            go_wp2_with fail
            have hri := rint_any hrd7
            rw [HRd.out] at hri
            refine hri.mono ?_
            rintro e w8 ⟨a8, c8, rfl, hrd8, hk8, _⟩
            have hb8 : Below w.heap.size w w8 := hb7'.trans (hk8.below hb7'.size (fun i e => by omega))
            clear hri hrd7 HRd HD
            go_wp2_with (go_at_call 34; refine (rerr_cell rb 1 _ hrd8.c1).mono ?_; rintro e w9 ⟨rfl, hw⟩; obtain rfl := hw.symm)
            go_ret
            exact ⟨rfl, hb8⟩
          · go_wp2_with (at_builtin; (refine wpList_append_b rfl _ _ rfl w3.heap.size (.slice (some ⟨g1, 0, none⟩) (1 + wid n) c1) (1 + wid n) _ rfl (HR5.out.alloc _) ⟨w4.heap.size, 0, none⟩ 1 1 [.int .u8 0] rfl rfl (by decide) ?q3cp ?q4cp ?q5cp ?q6cp ?_))
            case q4cp => first | rfl | (intro u hu; simp only [List.mem_singleton] at hu; subst hu; rfl)
            case q5cp => omega
            case q6cp => first | omega | (simp; omega)
            intro g2 c2 w6 hrow6 hg6
            have hb6 : Below w.heap.size w w6 := by
              refine (hb5.alloc hb5.size _).grown hg6 (by have := hb5.size; simp; omega) (fun k e => ?_)
              simp [Value.ownBlock] at e
              omega
            have hs6 := hb6.size
            obtain ⟨d1, d2, d3, d4, d5⟩ := row_base hrow6
            have hrl : w6.rangeAt g2 0 (bytesV (UInt8.ofNat (wid n + 1) :: (encTo n (wid n) ++ [0]))) := by
              have e : bytesV (UInt8.ofNat (wid n + 1) :: (encTo n (wid n) ++ [0])) = Value.int .u8 ((wid n : Int) + 1) :: (bytesV (encTo n (wid n)) ++ [Value.int .u8 0]) := by
                have e1 : bV (UInt8.ofNat (wid n + 1)) = .int .u8 ((wid n : Int) + 1) := by
                  have hx : (UInt8.ofNat (wid n + 1)).toNat = wid n + 1 := by simp [UInt8.toNat_ofNat']; omega
                  simp only [bV, hx]; rfl
                rw [← e1]; simp [bytesV, bV]
              rw [e]; simpa using d3
            have HD : Hid (w6.rangeAt g2 0 (bytesV (UInt8.ofNat (wid n + 1) :: (encTo n (wid n) ++ [0])))) := hrl
            have HRd : Hid (rdInt (UInt8.ofNat (wid n + 1) :: (encTo n (wid n) ++ [0])) 0 = (0, [], 1)) := rd_long n h0 h1 hw7 0 (by rw [if_neg (by omega)])
            clear hrl d3 hrow6 hg6 HR5 HR d5
            go_wp2_with fail
            refine (newreader_len g2 0 c2 (1 + wid n + 1) (UInt8.ofNat (wid n + 1) :: (encTo n (wid n) ++ [0])) w6 (by simp [encTo_length]; omega) (by omega) HD.out).mono ?_
            rintro e w7 ⟨rb, a7, c7, rfl, t1, hrd7, hb7⟩
            have hb7' : Below w.heap.size w w7 := hb6.trans (hb7.mono hs6)
            go_wp2_with fail
            have hri := rint_any hrd7
            rw [HRd.out] at hri
            refine hri.mono ?_
            rintro e w8 ⟨a8, c8, rfl, hrd8, hk8, _⟩
            have hb8 : Below w.heap.size w w8 := hb7'.trans (hk8.below hb7'.size (fun i e => by omega))
            clear hri hrd7 HRd HD
            go_wp2_with (go_at_call 34; refine (rerr_cell rb 1 _ hrd8.c1).mono ?_; rintro e w9 ⟨rfl, hw⟩; obtain rfl := hw.symm)
            go_ret
            exact ⟨rfl, hb8⟩
end Go.Proofs.YtmdjjnjhjojimaaDoor
