import Derived.Test.YtmdjjnjhjojimaaDoorBinA
import Derived.Deep.DeepMust
namespace Go.Proofs.YtmdjjnjhjojimaaDoor
open Go.RowKit Go.Maps

theorem width_all (n : Int) (w : World) (h0 : -9223372036854775808 ≤ n) (h1 : n ≤ 9223372036854775807) : Calls Tryd.prog 62 #[.int .i64 n] w fun e w' => e = .returned (.int .i64 (wid n)) ∧ w' = w := by
  by_cases hn : n = 0
  · subst hn; exact width_zero w
  · exact width_any n w h0 h1 (by simpa using hn)
theorem wid_le (n : Int) : wid n ≤ 9 := by
  have := bitLen_le (mag n)
  unfold wid; split <;> omega

/-- The bytes of a number, the lowest first. -/
def byteAt (n : Int) (j : Nat) : UInt8 := UInt8.ofNat ((n / 256 ^ j) % 256).toNat
def encTo (n : Int) (j : Nat) : List UInt8 := (List.range j).map (byteAt n)
def encInt (n : Int) : List UInt8 := UInt8.ofNat (wid n) :: encTo n (wid n)
theorem encTo_succ (n : Int) (j : Nat) : encTo n (j + 1) = encTo n j ++ [byteAt n j] := by simp [encTo, List.range_succ]
theorem encTo_length (n : Int) (j : Nat) : (encTo n j).length = j := by simp [encTo]
theorem encInt_length (n : Int) : (encInt n).length = 1 + wid n := by simp [encInt, encTo_length]; omega
theorem u8_wrap (x : Int) : IntKind.u8.wrap x = x % 256 := by simp [IntKind.wrap, IntKind.bits, IntKind.signed]
theorem bV_byteAt (n : Int) (j : Nat) : bV (byteAt n j) = .int .u8 (IntKind.u8.wrap (n / 256 ^ j)) := by
  have h : ((n / 256 ^ j) % 256).toNat < 256 := by omega
  simp only [bV, byteAt, u8_wrap, UInt8.toNat_ofNat', Nat.reducePow, Nat.mod_eq_of_lt h]
  congr 1; omega
theorem bV_wid (n : Int) : bV (UInt8.ofNat (wid n)) = .int .u8 (wid n) := by
  have := wid_le n
  simp only [bV, UInt8.toNat_ofNat', Nat.reducePow]
  congr 1; omega
theorem div_step (n : Int) (j : Nat) : n / 256 ^ j / 256 = n / 256 ^ (j + 1) := by
  rw [Int.pow_succ]; exact Int.ediv_ediv_of_nonneg (Int.pow_nonneg (by omega))
theorem div_bound (n : Int) (j : Nat) (h0 : -9223372036854775808 ≤ n) (h1 : n ≤ 9223372036854775807) : -9223372036854775808 ≤ n / 256 ^ j ∧ n / 256 ^ j ≤ 9223372036854775807 := by
  induction j with
  | zero => simp; omega
  | succ j ih => rw [← div_step]; omega

/-- Where a row's value lies behind appends: where it lay, or in a new block. -/
def Moved (w : World) (v v' : Value) : Prop := v'.ownBlock = v.ownBlock ∨ ∃ g, v'.ownBlock = some g ∧ w.heap.size ≤ g
theorem Moved.step {w : World} {v u v' : Value} {g : Nat} (h : Moved w v u) (hl : v'.ownBlock = u.ownBlock ∨ v'.ownBlock = some g) (hg : w.heap.size ≤ g) : Moved w v v' := by
  rcases hl with e | e
  · rcases h with h | ⟨b, h, hb⟩
    · exact Or.inl (e.trans h)
    · exact Or.inr ⟨b, e.trans h, hb⟩
  · exact Or.inr ⟨g, e, hg⟩
theorem Moved.trans {w w1 : World} {v u v' : Value} (h : Moved w v u) (h1 : Moved w1 u v') (hs : w.heap.size ≤ w1.heap.size) : Moved w v v' := by
  rcases h1 with e | ⟨b, e, hb⟩
  · exact h.step (Or.inl e) (Nat.le_refl _)
  · exact Or.inr ⟨b, e, Nat.le_trans hs hb⟩
theorem Keeps.grownAt {S : Nat → Prop} {a w w' : World} {row : Option Nat} (h : Keeps S a w) (hg : w.grownBy w' row) (hr : ∀ k, row = some k → S k ∨ a.heap.size ≤ k) : Keeps S a w' :=
  ⟨hg.os.trans h.os, hg.tape.trans h.tape, hg.output.trans h.output, Nat.le_trans h.size hg.size, fun i hi hs => (hg.block i (Nat.lt_of_lt_of_le hi h.size) (fun e => by
    rcases hr i e.symm with x | x
    · exact hs x
    · omega)).trans (h.block i hi hs)⟩
theorem Keeps.moved {a w w' : World} {v u : Value} (h : Keeps (fun i => v.ownBlock = some i) a w) (hg : w.grownBy w' u.ownBlock) (hm : Moved a v u) : Keeps (fun i => v.ownBlock = some i) a w' :=
  h.grownAt hg (fun k e => by
    rcases hm with x | ⟨b, x, hb⟩
    · exact Or.inl (x.symm.trans e)
    · rw [x] at e; cases e; exact Or.inr hb)

set_option maxRecDepth 100000 in
set_option maxHeartbeats 400000 in
theorem appendInt_any (v : Value) (m base : Nat) (xs : List Value) (n : Int) (w : World) (h0 : -9223372036854775808 ≤ n) (h1 : n ≤ 9223372036854775807) (hown : w.ownsRow base 5 1 v m xs) (hbase : base ≤ w.heap.size) (hm : m ≤ 1000000000) :
    Calls Tryd.prog 51 #[v, .int .i64 n] w fun e w' => ∃ v', e = .returned v' ∧ w'.ownsRow base 5 1 v' (m + (1 + wid n)) (xs ++ bytesV (encInt n)) ∧ Keeps (fun i => v.ownBlock = some i) w w' ∧ Moved w v v' ∧ v' ≠ .slice none 0 0 := by
  obtain ⟨i0, hi, hz0, hz1, hz2⟩ := info_parts info5
  have hwl := wid_le n
  go_enter Tryd.func51, Tryd.ntmps51
  go_wp2_with (first
    | (go_at_call 62; refine (width_all n _ h0 h1).mono ?_; rintro e w' ⟨rfl, hw⟩; obtain rfl := hw.symm)
    | (at_builtin; refine wpList_append_own_at _ rfl _ _ 33 rfl base 5 i0 (.int .u8 0) 1 1 Tryd.underlying33 hi hz0 hz1 hz2 rfl (by decide) v m xs rfl (hown.alloc _) ⟨w.heap.size, 0, none⟩ 1 1 [.int .u8 (wid n)] rfl rfl (cell_one_new _ _ _) ?q1 ?q2 ?q3 ?q4 ?_))
  case q1 => intro u hu; simp only [List.mem_singleton] at hu; subst hu; rfl
  case q2 => unfold maxLen; omega
  case q3 => omega
  case q4 => simp; omega
  intro v1 w1 hown1 hg1 hnil1 hloc1
  have hk1 : Keeps (fun i => v.ownBlock = some i) w w1 := ((Keeps.refl (fun i => v.ownBlock = some i) w).alloc _).grown hg1 (fun k e => e)
  have hmv1 : Moved w v v1 := by
    rcases hloc1 with h | h
    · exact Or.inl h
    · exact Or.inr ⟨_, h, by simp⟩
  have hne1 : v1 ≠ .slice none 0 0 := hnil1
  have hx1 : xs ++ [Value.int .u8 (wid n)] = xs ++ bytesV (UInt8.ofNat (wid n) :: encTo n 0) := by
    rw [show bytesV (UInt8.ofNat (wid n) :: encTo n 0) = [bV (UInt8.ofNat (wid n))] from rfl, bV_wid]
  rw [hx1] at hown1
  clear hx1 hnil1 hloc1 hg1
  go_wp2
  go_loopw [0, 1, 14] (fun s0 s1 i wr => ∃ (j : Nat), j ≤ wid n ∧ i = .int .i64 j ∧ s1 = .int .i64 (n / 256 ^ j) ∧ wr.ownsRow base 5 1 s0 (m + 1 + j) (xs ++ bytesV (UInt8.ofNat (wid n) :: encTo n j)) ∧ Keeps (fun i => v.ownBlock = some i) w wr ∧ Moved w v s0 ∧ s0 ≠ .slice none 0 0) (fun _ _ i _ => wid n - (RowKit.intOf i).toNat)
  case atStart => exact ⟨0, Nat.zero_le _, rfl, by simp, hown1, hk1, hmv1, hne1⟩
  case round =>
    obtain ⟨j, hj, rfl, rfl, hownr, hkr, hmvr, hner⟩ := hrel
    have hdb := div_bound n j h0 h1
    by_cases hlt : j < wid n
    · have hbyte := bV_byteAt n j
      have hdiv := div_step n j
      generalize hq : n / 256 ^ j = q at hdb hbyte hdiv ⊢
      clear hq
      have HB : Hid (bV (byteAt n j) = .int .u8 (IntKind.u8.wrap q)) := hbyte
      have HD : Hid (q / 256 = n / 256 ^ (j + 1)) := hdiv
      clear hbyte hdiv
      go_wp2_with (at_builtin; refine wpList_append_own_at _ rfl _ _ 33 rfl base 5 i0 (.int .u8 0) 1 1 Tryd.underlying33 hi hz0 hz1 hz2 rfl (by decide) u0 (m + 1 + j) _ rfl (hownr.alloc _) ⟨wr.heap.size, 0, none⟩ 1 1 [.int .u8 (IntKind.u8.wrap q)] rfl rfl (cell_one_new _ _ _) ?q1 ?q2 ?q3 ?q4 ?_)
      case q1 => intro u hu; simp only [List.mem_singleton] at hu; subst hu; rfl
      case q2 => unfold maxLen; omega
      case q3 => omega
      case q4 => have := hkr.size; simp; omega
      intro v2 w2 hown2 hg2 hnil2 hloc2
      have hsz := hkr.size
      have hk2 := (hkr.alloc _).moved hg2 hmvr
      have hm2 : Moved w v v2 := hmvr.step hloc2 (by omega)
      have HO : Hid (w2.ownsRow base 5 1 v2 (m + 1 + (j + 1)) (xs ++ bytesV (UInt8.ofNat (wid n) :: encTo n (j + 1)))) := by
        have e : bytesV (UInt8.ofNat (wid n) :: encTo n (j + 1)) = bytesV (UInt8.ofNat (wid n) :: encTo n j) ++ [Value.int IntKind.u8 (IntKind.u8.wrap q)] := by
          rw [encTo_succ, ← HB.out]; simp [bytesV]
        rw [e]; exact hown2
      clear hown2 hg2 hloc2 hownr
      go_wp2
      go_roundw
      case rel => exact ⟨j + 1, by omega, by go_num, by rw [← HD.out], HO.out, hk2, hm2, hnil2⟩
      case measure => simp [RowKit.intOf]; omega
    · go_wp2
      go_ret
      have : j = wid n := by omega
      subst this
      exact ⟨_, rfl, by rw [Nat.add_assoc] at hownr; exact hownr, hkr, hmvr, hner⟩
end Go.Proofs.YtmdjjnjhjojimaaDoor
