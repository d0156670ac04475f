import Derived.Test.YteaacodloabdcaaGreatDoorClone
import Derived.Test.YteaacodloabdcaaGreatDoorLayB
import Derived.Maps.AppendAt
import Derived.Laws.BitsAllLaws
import Derived.Deep.DeepMust
import Derived.Lib.AppendStr
import Derived.Test.YteaacodloabdcaaGreatDoorDevC
import Derived.StillTailTactics
import Derived.Laws.IdiomStrings
import Derived.Lib.BufferRead
namespace Go.Proofs.YteaacodloabdcaaGreatDoor
open Go.RowKit Go.Maps

/-- In how many bytes a number fits with its sign. -/
def mag (n : Int) : Nat := (if n < 0 then -1 - n else n).toNat
def wid (n : Int) : Nat := if n = 0 then 0 else Lib.bitLen (mag n) / 8 + 1

theorem len64 (x : Int) (w : World) (h0 : 0 ≤ x) (h1 : x ≤ 18446744073709551615) :
    Calls Tryz.prog 103 #[.int .u64 x] w fun e w' => e = .returned (.int .i64 (Lib.bitLen x.toNat)) ∧ w' = w := Any.bits_Len64 Tryz.lays129 x w h0 h1

theorem width_zero (w : World) : Calls Tryz.prog 113 #[.int .i64 0] w fun e w' => e = .returned (.int .i64 0) ∧ w' = w := by
  go_enter Tryz.func113, Tryz.ntmps113
  go_wp2
  go_ret
  exact ⟨rfl, rfl⟩

theorem xor_sign (n : Int) (h0 : -9223372036854775808 ≤ n) (h1 : n ≤ 9223372036854775807) : IntKind.u64.wrap (bits BinOp.xor IntKind.i64 n (n / 9223372036854775808)) = (mag n : Int) := by
  have hw : ∀ x : Int, IntKind.u64.wrap x = x % 18446744073709551616 := fun x => by simp [IntKind.wrap, IntKind.bits, IntKind.signed]
  have hi : ∀ x : Int, IntKind.i64.wrap x = wrap64 x := fun x => by rw [IntKind.wrap_i64]; unfold wrap64; rfl
  by_cases hn : n < 0
  · have e : n / 9223372036854775808 = -1 := by omega
    rw [e]
    have hx : bits BinOp.xor IntKind.i64 n (-1) = -1 - n := by
      show IntKind.i64.wrap ((BitVec.ofInt 64 n ^^^ BitVec.ofInt 64 (-1)).toNat : Int) = _
      have h1' : BitVec.ofInt 64 (-1) = BitVec.allOnes 64 := by decide
      rw [h1', BitVec.xor_allOnes, BitVec.toNat_not, BitVec.toNat_ofInt]
      simp [IntKind.wrap, IntKind.bits, IntKind.signed]
      omega
    rw [hx, hw, mag, if_pos hn]
    omega
  · have e : n / 9223372036854775808 = 0 := by omega
    rw [e]
    have hx : bits BinOp.xor IntKind.i64 n 0 = n := by
      show IntKind.i64.wrap ((BitVec.ofInt 64 n ^^^ BitVec.ofInt 64 0).toNat : Int) = _
      have h1' : BitVec.ofInt 64 0 = 0#64 := by decide
      rw [h1', BitVec.xor_zero, BitVec.toNat_ofInt]
      simp [IntKind.wrap, IntKind.bits, IntKind.signed]
      omega
    rw [hx, hw, mag, if_neg hn]
    omega
theorem mag_le (n : Int) (h0 : -9223372036854775808 ≤ n) (h1 : n ≤ 9223372036854775807) : mag n ≤ 9223372036854775807 := by unfold mag; split <;> omega
theorem bitLenAux_le : ∀ (f x : Nat), Lib.bitLenAux f x ≤ f
  | 0, _ => by simp [Lib.bitLenAux]
  | f + 1, x => by
    have := bitLenAux_le f (x / 2)
    simp only [Lib.bitLenAux]; split <;> omega
theorem bitLen_le (x : Nat) : Lib.bitLen x ≤ 64 := bitLenAux_le 64 x

theorem width_any (n : Int) (w : World) (h0 : -9223372036854775808 ≤ n) (h1 : n ≤ 9223372036854775807) (hn : (n == 0) = false) : Calls Tryz.prog 113 #[.int .i64 n] w fun e w' => e = .returned (.int .i64 (wid n)) ∧ w' = w := by
  have hx := xor_sign n h0 h1
  have hm := mag_le n h0 h1
  have hl := bitLen_le (mag n)
  have he : (wid n : Int) = (Lib.bitLen (mag n) : Int) / 8 + 1 := by
    unfold wid; rw [if_neg (by simpa using hn)]; omega
  have HE : Hid ((wid n : Int) = (Lib.bitLen (mag n) : Int) / 8 + 1) := he
  clear he
  go_enter Tryz.func113, Tryz.ntmps113
  go_wp2_with (go_at_call 103; refine (len64 _ _ (by omega) (by omega)).mono ?_; rintro e w' ⟨rfl, rfl⟩)
  go_ret
  exact ⟨by rw [HE.out]; rfl, rfl⟩
end Go.Proofs.YteaacodloabdcaaGreatDoor

namespace Go.Proofs.YteaacodloabdcaaGreatDoor
open Go.RowKit Go.Maps

theorem width_all (n : Int) (w : World) (h0 : -9223372036854775808 ≤ n) (h1 : n ≤ 9223372036854775807) : Calls Tryz.prog 113 #[.int .i64 n] w fun e w' => e = .returned (.int .i64 (wid n)) ∧ w' = w := by
  by_cases hn : n = 0
  · subst hn; exact width_zero w
  · exact width_any n w h0 h1 (by simpa using hn)
theorem wid_le (n : Int) : wid n ≤ 9 := by
  have := bitLen_le (mag n)
  unfold wid; split <;> omega

/-- The bytes of a number, the lowest first. -/
def byteAt (n : Int) (j : Nat) : UInt8 := UInt8.ofNat ((n / 256 ^ j) % 256).toNat
def encTo (n : Int) (j : Nat) : List UInt8 := (List.range j).map (byteAt n)
def encInt (n : Int) : List UInt8 := UInt8.ofNat (wid n) :: encTo n (wid n)
theorem encTo_succ (n : Int) (j : Nat) : encTo n (j + 1) = encTo n j ++ [byteAt n j] := by simp [encTo, List.range_succ]
theorem encTo_length (n : Int) (j : Nat) : (encTo n j).length = j := by simp [encTo]
theorem encInt_length (n : Int) : (encInt n).length = 1 + wid n := by simp [encInt, encTo_length]; omega
theorem u8_wrap (x : Int) : IntKind.u8.wrap x = x % 256 := by simp [IntKind.wrap, IntKind.bits, IntKind.signed]
theorem bV_byteAt (n : Int) (j : Nat) : bV (byteAt n j) = .int .u8 (IntKind.u8.wrap (n / 256 ^ j)) := by
  have h : ((n / 256 ^ j) % 256).toNat < 256 := by omega
  simp only [bV, byteAt, u8_wrap, UInt8.toNat_ofNat', Nat.reducePow, Nat.mod_eq_of_lt h]
  congr 1; omega
theorem bV_wid (n : Int) : bV (UInt8.ofNat (wid n)) = .int .u8 (wid n) := by
  have := wid_le n
  simp only [bV, UInt8.toNat_ofNat', Nat.reducePow]
  congr 1; omega
theorem div_step (n : Int) (j : Nat) : n / 256 ^ j / 256 = n / 256 ^ (j + 1) := by
  rw [Int.pow_succ]; exact Int.ediv_ediv_of_nonneg (Int.pow_nonneg (by omega))
theorem div_bound (n : Int) (j : Nat) (h0 : -9223372036854775808 ≤ n) (h1 : n ≤ 9223372036854775807) : -9223372036854775808 ≤ n / 256 ^ j ∧ n / 256 ^ j ≤ 9223372036854775807 := by
  induction j with
  | zero => simp; omega
  | succ j ih => rw [← div_step]; omega

/-- Where a row's value lies behind appends: where it lay, or in a new block. -/
def Moved (w : World) (v v' : Value) : Prop := v'.ownBlock = v.ownBlock ∨ ∃ g, v'.ownBlock = some g ∧ w.heap.size ≤ g
theorem Moved.step {w : World} {v u v' : Value} {g : Nat} (h : Moved w v u) (hl : v'.ownBlock = u.ownBlock ∨ v'.ownBlock = some g) (hg : w.heap.size ≤ g) : Moved w v v' := by
  rcases hl with e | e
  · rcases h with h | ⟨b, h, hb⟩
    · exact Or.inl (e.trans h)
    · exact Or.inr ⟨b, e.trans h, hb⟩
  · exact Or.inr ⟨g, e, hg⟩
theorem Moved.trans {w w1 : World} {v u v' : Value} (h : Moved w v u) (h1 : Moved w1 u v') (hs : w.heap.size ≤ w1.heap.size) : Moved w v v' := by
  rcases h1 with e | ⟨b, e, hb⟩
  · exact h.step (Or.inl e) (Nat.le_refl _)
  · exact Or.inr ⟨b, e, Nat.le_trans hs hb⟩
theorem Keeps.grownAt {S : Nat → Prop} {a w w' : World} {row : Option Nat} (h : Keeps S a w) (hg : w.grownBy w' row) (hr : ∀ k, row = some k → S k ∨ a.heap.size ≤ k) : Keeps S a w' :=
  ⟨hg.os.trans h.os, hg.tape.trans h.tape, hg.output.trans h.output, Nat.le_trans h.size hg.size, fun i hi hs => (hg.block i (Nat.lt_of_lt_of_le hi h.size) (fun e => by
    rcases hr i e.symm with x | x
    · exact hs x
    · omega)).trans (h.block i hi hs)⟩
theorem Keeps.moved {a w w' : World} {v u : Value} (h : Keeps (fun i => v.ownBlock = some i) a w) (hg : w.grownBy w' u.ownBlock) (hm : Moved a v u) : Keeps (fun i => v.ownBlock = some i) a w' :=
  h.grownAt hg (fun k e => by
    rcases hm with x | ⟨b, x, hb⟩
    · exact Or.inl (x.symm.trans e)
    · rw [x] at e; cases e; exact Or.inr hb)

set_option maxRecDepth 100000 in
set_option maxHeartbeats 400000 in
theorem appendInt_any (v : Value) (m base : Nat) (xs : List Value) (n : Int) (w : World) (h0 : -9223372036854775808 ≤ n) (h1 : n ≤ 9223372036854775807) (hown : w.ownsRow base 5 1 v m xs) (hbase : base ≤ w.heap.size) (hm : m ≤ 1000000000) :
    Calls Tryz.prog 78 #[v, .int .i64 n] w fun e w' => ∃ v', e = .returned v' ∧ w'.ownsRow base 5 1 v' (m + (1 + wid n)) (xs ++ bytesV (encInt n)) ∧ Keeps (fun i => v.ownBlock = some i) w w' ∧ Moved w v v' ∧ v' ≠ .slice none 0 0 := by
  obtain ⟨i0, hi, hz0, hz1, hz2⟩ := info_parts info5
  have hwl := wid_le n
  go_enter Tryz.func78, Tryz.ntmps78
  go_wp2_with (first
    | (go_at_call 113; refine (width_all n _ h0 h1).mono ?_; rintro e w' ⟨rfl, hw⟩; obtain rfl := hw.symm)
    | (at_builtin; refine wpList_append_own_at _ rfl _ _ 67 rfl base 5 i0 (.int .u8 0) 1 1 Tryz.underlying67 hi hz0 hz1 hz2 rfl (by decide) v m xs rfl (hown.alloc _) ⟨w.heap.size, 0, none⟩ 1 1 [.int .u8 (wid n)] rfl rfl (cell_one_new _ _ _) ?q1 ?q2 ?q3 ?q4 ?_))
  case q1 => intro u hu; simp only [List.mem_singleton] at hu; subst hu; rfl
  case q2 => unfold maxLen; omega
  case q3 => omega
  case q4 => simp; omega
  intro v1 w1 hown1 hg1 hnil1 hloc1
  have hk1 : Keeps (fun i => v.ownBlock = some i) w w1 := ((Keeps.refl (fun i => v.ownBlock = some i) w).alloc _).grown hg1 (fun k e => e)
  have hmv1 : Moved w v v1 := by
    rcases hloc1 with h | h
    · exact Or.inl h
    · exact Or.inr ⟨_, h, by simp⟩
  have hne1 : v1 ≠ .slice none 0 0 := hnil1
  have hx1 : xs ++ [Value.int .u8 (wid n)] = xs ++ bytesV (UInt8.ofNat (wid n) :: encTo n 0) := by
    rw [show bytesV (UInt8.ofNat (wid n) :: encTo n 0) = [bV (UInt8.ofNat (wid n))] from rfl, bV_wid]
  rw [hx1] at hown1
  clear hx1 hnil1 hloc1 hg1
  go_wp2
  go_loopw [0, 1, 14] (fun s0 s1 i wr => ∃ (j : Nat), j ≤ wid n ∧ i = .int .i64 j ∧ s1 = .int .i64 (n / 256 ^ j) ∧ wr.ownsRow base 5 1 s0 (m + 1 + j) (xs ++ bytesV (UInt8.ofNat (wid n) :: encTo n j)) ∧ Keeps (fun i => v.ownBlock = some i) w wr ∧ Moved w v s0 ∧ s0 ≠ .slice none 0 0) (fun _ _ i _ => wid n - (RowKit.intOf i).toNat)
  case atStart => exact ⟨0, Nat.zero_le _, rfl, by simp, hown1, hk1, hmv1, hne1⟩
  case round =>
    obtain ⟨j, hj, rfl, rfl, hownr, hkr, hmvr, hner⟩ := hrel
    have hdb := div_bound n j h0 h1
    by_cases hlt : j < wid n
    · have hbyte := bV_byteAt n j
      have hdiv := div_step n j
      generalize hq : n / 256 ^ j = q at hdb hbyte hdiv ⊢
      clear hq
      have HB : Hid (bV (byteAt n j) = .int .u8 (IntKind.u8.wrap q)) := hbyte
      have HD : Hid (q / 256 = n / 256 ^ (j + 1)) := hdiv
      clear hbyte hdiv
      go_wp2_with (at_builtin; refine wpList_append_own_at _ rfl _ _ 67 rfl base 5 i0 (.int .u8 0) 1 1 Tryz.underlying67 hi hz0 hz1 hz2 rfl (by decide) u0 (m + 1 + j) _ rfl (hownr.alloc _) ⟨wr.heap.size, 0, none⟩ 1 1 [.int .u8 (IntKind.u8.wrap q)] rfl rfl (cell_one_new _ _ _) ?q1 ?q2 ?q3 ?q4 ?_)
      case q1 => intro u hu; simp only [List.mem_singleton] at hu; subst hu; rfl
      case q2 => unfold maxLen; omega
      case q3 => omega
      case q4 => have := hkr.size; simp; omega
      intro v2 w2 hown2 hg2 hnil2 hloc2
      have hsz := hkr.size
      have hk2 := (hkr.alloc _).moved hg2 hmvr
      have hm2 : Moved w v v2 := hmvr.step hloc2 (by omega)
      have HO : Hid (w2.ownsRow base 5 1 v2 (m + 1 + (j + 1)) (xs ++ bytesV (UInt8.ofNat (wid n) :: encTo n (j + 1)))) := by
        have e : bytesV (UInt8.ofNat (wid n) :: encTo n (j + 1)) = bytesV (UInt8.ofNat (wid n) :: encTo n j) ++ [Value.int IntKind.u8 (IntKind.u8.wrap q)] := by
          rw [encTo_succ, ← HB.out]; simp [bytesV]
        rw [e]; exact hown2
      clear hown2 hg2 hloc2 hownr
      go_wp2
      go_roundw
      case rel => exact ⟨j + 1, by omega, by go_num, by rw [← HD.out], HO.out, hk2, hm2, hnil2⟩
      case measure => simp [RowKit.intOf]; omega
    · go_wp2
      go_ret
      have : j = wid n := by omega
      subst this
      exact ⟨_, rfl, by rw [Nat.add_assoc] at hownr; exact hownr, hkr, hmvr, hner⟩
end Go.Proofs.YteaacodloabdcaaGreatDoor

namespace Go.Proofs.YteaacodloabdcaaGreatDoor
open Go.RowKit Go.Maps

theorem appendInt_shape (a : Option Addr) (m c base : Nat) (xs : List Value) (n : Int) (w : World) (h0 : -9223372036854775808 ≤ n) (h1 : n ≤ 9223372036854775807) (hown : w.ownsRow base 5 1 (.slice a m c) m xs) (hbase : base ≤ w.heap.size) (hm : m ≤ 1000000000) :
    Calls Tryz.prog 78 #[.slice a m c, .int .i64 n] w fun e w' => ∃ g c', e = .returned (.slice (some ⟨g, 0, none⟩) (m + (1 + wid n)) c') ∧ w'.ownsRow base 5 1 (.slice (some ⟨g, 0, none⟩) (m + (1 + wid n)) c') (m + (1 + wid n)) (xs ++ bytesV (encInt n)) ∧
      Keeps (fun i => (Value.slice a m c).ownBlock = some i) w w' ∧ Moved w (.slice a m c) (.slice (some ⟨g, 0, none⟩) (m + (1 + wid n)) c') := by
  refine (appendInt_any (.slice a m c) m base xs n w h0 h1 hown hbase hm).mono ?_
  rintro e w' ⟨v', rfl, hrow, hk, hmv, hne⟩
  have hrow' := hrow
  obtain ⟨hl, ⟨rfl, _⟩ | ⟨g, c', cur, rfl, _⟩⟩ := hrow
  · exact absurd rfl hne
  · exact ⟨g, c', rfl, hrow', hk, hmv⟩

/-- A Writer in memory: its block wb, the bytes s that it holds. -/
structure WrAt (w : World) (wb base : Nat) (s : List UInt8) (a : Option Addr) (c : Nat) : Prop where
  c0 : w.cell? ⟨wb, 0, none⟩ = some (.slice a s.length c)
  f0 : w.frozen? ⟨wb, 0, none⟩ = false
  row : w.ownsRow base 5 1 (.slice a s.length c) s.length (bytesV s)
  bs : base ≤ w.heap.size
  ne : (Value.slice a s.length c).ownBlock ≠ some wb

theorem WrAt.lt {w : World} {wb base : Nat} {s : List UInt8} {a : Option Addr} {c : Nat} (h : WrAt w wb base s a c) : wb < w.heap.size := World.block_lt_of_cell? w _ h.c0

/-- What a Writer's calls may turn. -/
abbrev WrMay (wb : Nat) (v : Value) : Nat → Prop := fun i => i = wb ∨ v.ownBlock = some i

/-- A new value is laid into the Writer's field. -/
theorem WrAt.stored {w w1 : World} {wb base g c' l : Nat} {s t : List UInt8} {a : Option Addr} {c : Nat} (h : WrAt w wb base s a c) (hl : l = (s ++ t).length) (hrow : w1.ownsRow base 5 1 (.slice (some ⟨g, 0, none⟩) l c') l (bytesV (s ++ t)))
    (hk : Keeps (fun i => (Value.slice a s.length c).ownBlock = some i) w w1) (hmv : Moved w (.slice a s.length c) (.slice (some ⟨g, 0, none⟩) l c')) :
    WrAt (w1.setCell ⟨wb, 0, none⟩ (.slice (some ⟨g, 0, none⟩) l c')) wb base (s ++ t) (some ⟨g, 0, none⟩) c' ∧ Keeps (WrMay wb (.slice a s.length c)) w (w1.setCell ⟨wb, 0, none⟩ (.slice (some ⟨g, 0, none⟩) l c')) := by
  subst hl
  have hlt := h.lt
  have hgw : g ≠ wb := by
    rcases hmv with e | ⟨b, e, hb⟩
    · intro x; subst x; exact h.ne (by rw [← e]; rfl)
    · have e' : g = b := by simpa [Value.ownBlock] using e
      omega
  have c1 : w1.cell? ⟨wb, 0, none⟩ = some (.slice a s.length c) := (hk.cell (p := ⟨wb, 0, none⟩) hlt h.ne).trans h.c0
  have f1 : w1.frozen? ⟨wb, 0, none⟩ = false := (hk.frozen (p := ⟨wb, 0, none⟩) hlt h.ne).trans h.f0
  refine ⟨{ c0 := by rw [World.cell?_setCell_same _ _ _ c1], f0 := by rw [World.frozen?_setCell]; exact f1, row := ?_, bs := ?_, ne := by simp [Value.ownBlock]; exact hgw }, ?_⟩
  · obtain ⟨hl, ⟨e, _⟩ | ⟨g', cap, cur, e, r1, r2, r3⟩⟩ := hrow
    · cases e
    · refine ⟨hl, Or.inr ⟨g', cap, cur, e, r1, ?_, r3⟩⟩
      cases e
      rw [Below.heap_setCell _ _ _ _ hgw]; exact r2
  · have := hk.size; have := h.bs; simp [World.setCell]; omega
  · have hk' : Keeps (WrMay wb (.slice a s.length c)) w w1 := hk.mono (fun i e => Or.inr e)
    exact hk'.setCell (S := WrMay wb (.slice a s.length c)) (p := ⟨wb, 0, none⟩) (Or.inl rfl) _

theorem flat_len : ∀ (l : List Int) (j : Nat), l.length ≤ j → (l.flatMap encInt).length ≤ 10 * j
  | [], _, _ => by simp
  | x :: r, j, h => by
    have h1 := flat_len r (j - 1) (by simp at h; omega)
    have h2 := wid_le x
    rw [List.flatMap_cons, List.length_append, encInt_length]
    simp at h; omega
theorem wrKeeps {w wr w2 : World} {wb : Nat} {v u : Value} (h : Keeps (WrMay wb v) w wr) (hm : Moved w v u) (h2 : Keeps (WrMay wb u) wr w2) : Keeps (WrMay wb v) w w2 :=
  ⟨h2.os.trans h.os, h2.tape.trans h.tape, h2.output.trans h.output, Nat.le_trans h.size h2.size, fun i hi hs => (h2.block i (Nat.lt_of_lt_of_le hi h.size) (fun e => by
    rcases e with e | e
    · exact hs (Or.inl e)
    · rcases hm with x | ⟨b, x, hb⟩
      · exact hs (Or.inr (x.symm.trans e))
      · rw [x] at e; cases e; omega)).trans (h.block i hi hs)⟩

theorem int_nil (ns : Value) (w : World) : Calls Tryz.prog 63 #[.pointer none, ns] w fun e w' => e = .returned (.tuple #[]) ∧ w' = w := by
  go_enter Tryz.func63, Tryz.ntmps63
  go_wp2
  first | go_end0 | refine bodyPost_ret (results_none rfl _ _ _) rfl ?_
  exact ⟨rfl, rfl⟩

set_option maxRecDepth 100000 in
set_option maxHeartbeats 400000 in
theorem int_any {w : World} {wb base : Nat} {s : List UInt8} {a : Option Addr} {c : Nat} (h : WrAt w wb base s a c) (nb no nc : Nat) (ns : List Int) (hns : w.rangeAt nb no (ns.map (Value.int .i64))) (hn1 : nb ≠ wb) (hn2 : (Value.slice a s.length c).ownBlock ≠ some nb)
    (hwf : ∀ x ∈ ns, -9223372036854775808 ≤ x ∧ x ≤ 9223372036854775807) (hm : s.length + 10 * ns.length ≤ 1000000000) :
    Calls Tryz.prog 63 #[.pointer (some ⟨wb, 0, none⟩), .slice (some ⟨nb, no, none⟩) ns.length nc] w fun e w' => ∃ a' c', e = .returned (.tuple #[]) ∧ WrAt w' wb base (s ++ ns.flatMap encInt) a' c' ∧ Keeps (WrMay wb (.slice a s.length c)) w w' ∧ Moved w (.slice a s.length c) (.slice a' (s ++ ns.flatMap encInt).length c') := by
  go_enter Tryz.func63, Tryz.ntmps63
  go_wp2
  go_loopw [10] (fun i wr => ∃ (j : Nat) (a' : Option Addr) (c' : Nat), j ≤ ns.length ∧ i = .int .i64 j ∧ WrAt wr wb base (s ++ (ns.take j).flatMap encInt) a' c' ∧ Keeps (WrMay wb (.slice a s.length c)) w wr ∧ Moved w (.slice a s.length c) (.slice a' (s ++ (ns.take j).flatMap encInt).length c')) (fun i _ => ns.length - (RowKit.intOf i).toNat)
  case atStart => exact ⟨0, a, c, Nat.zero_le _, rfl, by simpa using h, Keeps.refl _ _, Or.inl (by simp)⟩
  case round =>
    obtain ⟨j, a', c', hj, rfl, hwr, hkr, hmr⟩ := hrel
    by_cases hlt : j < ns.length
    · have hmem : ns[j] ∈ ns := List.getElem_mem hlt
      obtain ⟨x, hx⟩ : ∃ x, ns[j] = x := ⟨_, rfl⟩
      have hxb := hwf _ hmem
      rw [hx] at hxb
      have hcell : wr.cell? ⟨nb, no + j, none⟩ = some (.int .i64 x) := by
        have e1 := hns j (.int .i64 x) (by rw [List.getElem?_map, List.getElem?_eq_getElem hlt, hx]; rfl)
        have e2 := hkr.cell (p := ⟨nb, no + j, none⟩) (World.block_lt_of_cell? _ _ e1) (by rintro (e | e); exact hn1 e; exact hn2 e)
        exact e2.trans e1
      have HT : Hid ((ns.take (j + 1)).flatMap encInt = (ns.take j).flatMap encInt ++ encInt x) := by
        show (ns.take (j + 1)).flatMap encInt = _
        rw [List.take_succ_eq_append_getElem hlt, List.flatMap_append, hx]; simp
      have hlen : ((ns.take j).flatMap encInt).length ≤ 10 * j := flat_len _ _ (by rw [List.length_take]; omega)
      have HT' : Hid (s ++ (ns.take (j + 1)).flatMap encInt = (s ++ (ns.take j).flatMap encInt) ++ encInt x) := by
        show s ++ (ns.take (j + 1)).flatMap encInt = _
        rw [HT.out, List.append_assoc]
      have hsl : (s ++ (ns.take j).flatMap encInt).length ≤ 1000000000 := by rw [List.length_append]; omega
      generalize hS : s ++ (ns.take j).flatMap encInt = sj at hwr hmr HT' hsl
      clear hS HT hlen hx hmem hns hwf
      have c0 := hwr.c0
      have hbr : base ≤ wr.heap.size := hwr.bs
      have hsz := hkr.size
      go_wp2_with fail
      refine (appendInt_shape a' sj.length c' base _ x wr hxb.1 hxb.2 hwr.row hbr hsl).mono ?_
      rintro e w1 ⟨g, c1, rfl, hrow1, hk1, hm1⟩
      have HL : Hid (sj.length + (1 + wid x) = (sj ++ encInt x).length) := by show _ = _; rw [List.length_append, encInt_length]
      have hst := hwr.stored HL.out (by rw [bytesV_append]; exact hrow1) hk1 hm1
      have cc : w1.cell? ⟨wb, 0, none⟩ = some (.slice a' sj.length c') := (hk1.cell (p := ⟨wb, 0, none⟩) hwr.lt hwr.ne).trans hwr.c0
      have cf : w1.frozen? ⟨wb, 0, none⟩ = false := (hk1.frozen (p := ⟨wb, 0, none⟩) hwr.lt hwr.ne).trans hwr.f0
      have HST := hst
      clear hst c0
      go_wp2
      go_roundw
      case rel => exact ⟨j + 1, some ⟨g, 0, none⟩, c1, by omega, by go_num, by rw [HT'.out]; exact HST.1, wrKeeps hkr hmr HST.2, by rw [HT'.out, ← HL.out]; exact hmr.trans hm1 hsz⟩
      case measure => simp [RowKit.intOf]; omega
    · go_wp2
      have : j = ns.length := by omega
      subst this
      go_end0
      rw [List.take_length] at hwr hmr
      exact ⟨a', c', rfl, hwr, hkr, hmr⟩
end Go.Proofs.YteaacodloabdcaaGreatDoor

namespace Go.Proofs.YteaacodloabdcaaGreatDoor
open Go.RowKit Go.Maps

theorem strCells_eq (st : ByteArray) : Lib.strCells st = bytesV st.data.toList := rfl

/-- 'append(b, s...)', the new value's shape written out. -/
theorem wpList_append_str {w : World} {ops : Array Oper} {rest : List Oper} {o : Oper} {a : Act} {Q : Exit → Act → World → Prop} (hgd : o.guard = none) (sl x : Operand) (ho : o.op = .call { callee := .builtin .append, args := #[sl, x], argTypes := #[67, 9] })
    (base : Nat) (b n c : Nat) (xs : List Value) (hs : a.eval sl = .slice (some ⟨b, 0, none⟩) n c) (hown : w.ownsRow base 5 1 (.slice (some ⟨b, 0, none⟩) n c) n xs) (st : ByteArray) (hx : a.eval x = .string st)
    (h63 : n + st.size ≤ 100000000000) (hbase : base ≤ w.heap.size)
    (h : ∀ g c' w', w'.ownsRow base 5 1 (.slice (some ⟨g, 0, none⟩) (n + st.size) c') (n + st.size) (xs ++ bytesV st.data.toList) → w.grownBy w' (some b) → wpList Tryz.prog ops Q rest (a.put o.dst (.slice (some ⟨g, 0, none⟩) (n + st.size) c')) w') : wpList Tryz.prog ops Q (o :: rest) a w := by
  obtain ⟨i0, hi, hz0, hz1, hz2⟩ := info_parts info5
  refine Lib.wpList_append_own_string w hgd sl x 67 9 ho base 5 i0 Tryz.underlying67 Tryz.underlying9 hi hz0 hz1 hz2 _ n xs hs hown st hx (by unfold maxLen; omega) (by omega) hbase ?_
  intro v' w' hrow hg hnil
  have hrow' := hrow
  obtain ⟨hl, ⟨rfl, _⟩ | ⟨g, c', cur, rfl, _⟩⟩ := hrow
  · have := (hnil.1 rfl).1; cases this
  · exact h g c' w' hrow' hg

theorem text_nil (st : Value) (w : World) : Calls Tryz.prog 166 #[.pointer none, st] w fun e w' => e = .returned (.tuple #[]) ∧ w' = w := by
  go_enter Tryz.func166, Tryz.ntmps166
  go_wp2
  first | go_end0 | refine bodyPost_ret (results_none rfl _ _ _) rfl ?_
  exact ⟨rfl, rfl⟩

set_option maxRecDepth 100000 in
set_option maxHeartbeats 400000 in
theorem text_any {w : World} {wb base : Nat} {s : List UInt8} {a : Option Addr} {c : Nat} (h : WrAt w wb base s a c) (hwb : wb < base) (st : ByteArray) (hm : s.length + 10 + st.size ≤ 1000000000) :
    Calls Tryz.prog 166 #[.pointer (some ⟨wb, 0, none⟩), .string st] w fun e w' => ∃ a' c', e = .returned (.tuple #[]) ∧ WrAt w' wb base (s ++ (encInt st.size ++ st.data.toList)) a' c' ∧ Keeps (fun i => i = wb ∨ base ≤ i) w w' := by
  have c0 := h.c0
  have hwl := wid_le st.size
  go_enter Tryz.func166, Tryz.ntmps166
  go_wp2_with fail
  refine (appendInt_shape a s.length c base _ st.size w (by omega) (by omega) h.row h.bs (by omega)).mono ?_
  rintro e w1 ⟨g, c1, rfl, hrow1, hk1, hm1⟩
  have HL : Hid (s.length + (1 + wid st.size) = (s ++ encInt st.size).length) := by show _ = _; rw [List.length_append, encInt_length]
  have hst := h.stored HL.out (by rw [bytesV_append]; exact hrow1) hk1 hm1
  have cc : w1.cell? ⟨wb, 0, none⟩ = some (.slice a s.length c) := (hk1.cell (p := ⟨wb, 0, none⟩) h.lt h.ne).trans h.c0
  have cf : w1.frozen? ⟨wb, 0, none⟩ = false := (hk1.frozen (p := ⟨wb, 0, none⟩) h.lt h.ne).trans h.f0
  obtain ⟨h2, hk2⟩ := hst
  clear c0
  have hrow2 := h2.row
  rw [← HL.out] at hrow2
  have hgw : g ≠ wb := fun e => h2.ne (by rw [e]; rfl)
  have HR : Hid ((w1.setCell ⟨wb, 0, none⟩ (.slice (some ⟨g, 0, none⟩) (s.length + (1 + wid st.size)) c1)).ownsRow base 5 1 (.slice (some ⟨g, 0, none⟩) (s.length + (1 + wid st.size)) c1) (s.length + (1 + wid st.size)) (bytesV (s ++ encInt st.size))) := hrow2
  clear hrow2
  go_wp2_with (at_builtin; refine wpList_append_str rfl _ _ rfl base g (s.length + (1 + wid st.size)) c1 _ rfl HR.out st rfl ?b1 ?b2 ?_)
  case b1 => omega
  case b2 => exact h2.bs
  intro g2 c2 w2 hrow3 hg3
  have hk3 : Keeps (fun i => i = wb ∨ base ≤ i) w w2 := by
    have hb1 : base ≤ g := by
      obtain ⟨_, ⟨e, _⟩ | ⟨g', cap, cur, e, r1, _⟩⟩ := HR.out
      · cases e
      · cases e; exact r1
    refine (hk2.mono ?_).grownAt hg3 (fun k e => by cases e; exact Or.inl (Or.inr hb1))
    rintro i (e | e)
    · exact Or.inl e
    · refine Or.inr ?_
      obtain ⟨_, ⟨e', _⟩ | ⟨g', cap, cur, e', r1, _⟩⟩ := h.row
      · injection e' with ea _ _; subst ea; simp [Value.ownBlock] at e
      · cases e'; cases e; exact r1
  have hb2 : base ≤ g2 := by
    obtain ⟨_, ⟨e, _⟩ | ⟨g', cap, cur, e, r1, _⟩⟩ := hrow3
    · cases e
    · cases e; exact r1
  have hlt2 : wb < (w1.setCell ⟨wb, 0, none⟩ (.slice (some ⟨g, 0, none⟩) (s.length + (1 + wid st.size)) c1)).heap.size := h2.lt
  have d1 : w2.cell? ⟨wb, 0, none⟩ = some (.slice (some ⟨g, 0, none⟩) (s.length + (1 + wid st.size)) c1) := by
    rw [World.cell?_of_block (w := w1.setCell ⟨wb, 0, none⟩ (.slice (some ⟨g, 0, none⟩) (s.length + (1 + wid st.size)) c1)) (hg3.block wb hlt2 (by simp; exact fun e => hgw e.symm)), h2.c0, ← HL.out]
  have d2 : w2.frozen? ⟨wb, 0, none⟩ = false := by
    rw [World.frozen?_of_block (w := w1.setCell ⟨wb, 0, none⟩ (.slice (some ⟨g, 0, none⟩) (s.length + (1 + wid st.size)) c1)) (hg3.block wb hlt2 (by simp; exact fun e => hgw e.symm)), h2.f0]
  have HL2 : Hid (s.length + (1 + wid st.size) + st.size = (s ++ (encInt st.size ++ st.data.toList)).length) := by
    show _ = _
    rw [← List.append_assoc, List.length_append, ← HL.out]; rfl
  go_wp2
  go_end0
  refine ⟨some ⟨g2, 0, none⟩, c2, rfl, ?_, hk3.setCell (S := fun i => i = wb ∨ base ≤ i) (p := ⟨wb, 0, none⟩) (Or.inl rfl) _⟩
  have hg2w : g2 ≠ wb := by omega
  have hh := h.bs
  have hsz := hk3.size
  refine { c0 := ?_, f0 := by rw [World.frozen?_setCell]; exact d2, row := ?_, bs := by simp [World.setCell]; omega, ne := by simp [Value.ownBlock]; exact hg2w }
  · rw [World.cell?_setCell_same _ _ _ d1, ← HL2.out]
  · rw [← HL2.out, ← List.append_assoc, bytesV_append]
    obtain ⟨hl, ⟨e, _⟩ | ⟨g', cap, cur, e, r1, r2, r3⟩⟩ := hrow3
    · cases e
    · refine ⟨hl, Or.inr ⟨g', cap, cur, e, r1, ?_, r3⟩⟩
      cases e
      rw [Below.heap_setCell _ _ _ _ hg2w]; exact r2
end Go.Proofs.YteaacodloabdcaaGreatDoor

namespace Go.Proofs.YteaacodloabdcaaGreatDoor
open Go.RowKit Go.Maps

/-- The unsigned number of bytes, the lowest first. -/
def uB : List UInt8 → Nat
  | [] => 0
  | b :: r => b.toNat + 256 * uB r
theorem uB_lt : ∀ s : List UInt8, uB s < 256 ^ s.length
  | [] => by simp [uB]
  | b :: r => by
    have := uB_lt r
    have hb := b.toNat_lt
    simp only [uB, List.length_cons, Nat.pow_succ]
    omega
theorem uB_snoc : ∀ (s : List UInt8) (b : UInt8), uB (s ++ [b]) = uB s + b.toNat * 256 ^ s.length
  | [], b => by simp [uB]
  | c :: r, b => by
    have := uB_snoc r b
    simp only [List.cons_append, uB, this, List.length_cons, Nat.pow_succ, Nat.mul_add]
    rw [show b.toNat * (256 ^ r.length * 256) = 256 * (b.toNat * 256 ^ r.length) from by rw [Nat.mul_comm (256 ^ r.length) 256, Nat.mul_left_comm]]
    omega

theorem pow_256 (j : Nat) : 256 ^ j = 2 ^ (8 * j) := by rw [show (256 : Nat) = 2 ^ 8 from rfl, ← Nat.pow_mul]
/-- 'u | uint64(x) << (8*j)', u below 256^j. -/
theorem or_byte (u x j : Nat) (hu : u < 256 ^ j) (hx : x < 256) (hj : j < 8) : bits BinOp.or IntKind.u64 (u : Int) (IntKind.u64.wrap ((x : Int) * 2 ^ (8 * j))) = ((u + x * 256 ^ j : Nat) : Int) := by
  have hp : 2 ^ (8 * j) ≤ 2 ^ 56 := Nat.pow_le_pow_right (by omega) (by omega)
  have hxl : x * 2 ^ (8 * j) < 18446744073709551616 := by
    have h1 : x * 2 ^ (8 * j) ≤ 255 * 2 ^ 56 := Nat.mul_le_mul (by omega) hp
    have h2 : 255 * 2 ^ 56 < 18446744073709551616 := by decide
    omega
  rw [pow_256] at hu ⊢
  have hul : u < 18446744073709551616 := by
    have h2 : 2 ^ 56 < 18446744073709551616 := by decide
    omega
  have e1 : (x : Int) * 2 ^ (8 * j) = ((x * 2 ^ (8 * j) : Nat) : Int) := by push_cast; rfl
  rw [e1]
  have hw : IntKind.u64.wrap ((x * 2 ^ (8 * j) : Nat) : Int) = ((x * 2 ^ (8 * j) : Nat) : Int) := by
    have : ∀ y : Int, IntKind.u64.wrap y = y % 18446744073709551616 := fun y => by simp [IntKind.wrap, IntKind.bits, IntKind.signed]
    rw [this]; omega
  rw [hw, u64_or_nat _ _ hul hxl]
  congr 1
  have h3 := Nat.two_pow_add_eq_or_of_lt hu x
  rw [Nat.mul_comm x, Nat.or_comm, ← h3]
  omega
/-- The number that bytes make, the sign in the last one. -/
def joinB (s : List UInt8) : Int := wrap64 (IntKind.u64.wrap ((uB s : Int) * 2 ^ (8 * (8 - s.length)))) / 2 ^ (8 * (8 - s.length))

set_option maxRecDepth 100000 in
set_option maxHeartbeats 400000 in
theorem join_any (g o c : Nat) (s : List UInt8) (w : World) (hs : s.length ≤ 8) (hr : w.rangeAt g o (bytesV s)) :
    Calls Tryz.prog 112 #[.slice (some ⟨g, o, none⟩) s.length c] w fun e w' => e = .returned (.int .i64 (joinB s)) ∧ w' = w := by
  go_enter Tryz.func112, Tryz.ntmps112
  go_wp2
  go_loop [3, 9] (fun u i => ∃ j : Nat, j ≤ s.length ∧ i = .int .i64 j ∧ u = .int .u64 (uB (s.take j))) (fun _ i => s.length - (RowKit.intOf i).toNat)
  case atStart => exact ⟨0, Nat.zero_le _, rfl, rfl⟩
  case round =>
    obtain ⟨j, hj, rfl, rfl⟩ := hrel
    by_cases hlt : j < s.length
    · have hcell : w.cell? ⟨g, o + j, none⟩ = some (.int .u8 s[j].toNat) := hr j _ (by simp [bytesV, List.getElem?_eq_getElem hlt, bV])
      have hx := s[j].toNat_lt
      have hu := uB_lt (s.take j)
      rw [List.length_take, Nat.min_eq_left hj] at hu
      have HS : Hid (uB (s.take (j + 1)) = uB (s.take j) + s[j].toNat * 256 ^ j) := by
        show uB (s.take (j + 1)) = _
        rw [List.take_succ_eq_append_getElem hlt, uB_snoc, List.length_take, Nat.min_eq_left hj]
      have HO : Hid (bits BinOp.or IntKind.u64 (uB (s.take j) : Int) (IntKind.u64.wrap ((s[j].toNat : Int) * 2 ^ (8 * j))) = ((uB (s.take j) + s[j].toNat * 256 ^ j : Nat) : Int)) := or_byte _ _ _ hu hx (by omega)
      clear hu
      generalize s[j].toNat = x at hcell hx HS HO
      generalize uB (s.take j) = u at HS HO ⊢
      go_wp2
      go_round
      case rel => exact ⟨j + 1, by omega, by go_num, by rw [HO.out, HS.out]⟩
      case measure => simp [RowKit.intOf]; omega
    · go_wp2
      have : j = s.length := by omega
      subst this
      go_ret
      exact ⟨by rw [List.take_length]; rfl, rfl⟩
theorem join_nil (c : Nat) (w : World) : Calls Tryz.prog 112 #[.slice none 0 c] w fun e w' => e = .returned (.int .i64 0) ∧ w' = w := by
  go_enter Tryz.func112, Tryz.ntmps112
  go_wp2
  refine wp_loop_rounds 1 ?_
  rw [rounds_succ]
  go_wp2
  go_ret
  exact ⟨rfl, rfl⟩
end Go.Proofs.YteaacodloabdcaaGreatDoor

namespace Go.Proofs.YteaacodloabdcaaGreatDoor
open Go.RowKit Go.Maps

/-- The memory is as it was. -/
structure Same (w w' : World) : Prop where
  heap : w'.heap = w.heap
  os : w'.os = w.os
  tape : w'.tape = w.tape
  output : w'.output = w.output
theorem Same.refl (w : World) : Same w w := ⟨rfl, rfl, rfl, rfl⟩
theorem Same.drew {a w : World} (h : Same a w) : Same a w.drew := ⟨h.heap, h.os, h.tape, h.output⟩
theorem Same.trans {a b c : World} (h : Same a b) (k : Same b c) : Same a c := ⟨k.heap.trans h.heap, k.os.trans h.os, k.tape.trans h.tape, k.output.trans h.output⟩
theorem Same.cell {w w' : World} (h : Same w w') (p : Addr) : w'.cell? p = w.cell? p := World.cell?_of_block (w := w) (by rw [h.heap])
theorem Same.frozen {w w' : World} (h : Same w w') (p : Addr) : w'.frozen? p = w.frozen? p := World.frozen?_of_block (w := w) (by rw [h.heap])
theorem Same.range {w w' : World} (h : Same w w') {b o : Nat} {cs : List Value} (hr : w.rangeAt b o cs) : w'.rangeAt b o cs := fun j v hv => (h.cell _).trans (hr j v hv)
theorem Same.keeps {w w' : World} (h : Same w w') (S : Nat → Prop) : Keeps S w w' := ⟨h.os, h.tape, h.output, by rw [h.heap]; exact Nat.le_refl _, fun i _ _ => by rw [h.heap]⟩

theorem follows' : Tryz.prog.follows .mixedOrders = true := by kernel_rfl
theorem joinB_bound (s : List UInt8) : -9223372036854775808 ≤ joinB s ∧ joinB s ≤ 9223372036854775807 := by
  unfold joinB
  generalize IntKind.u64.wrap ((uB s : Int) * 2 ^ (8 * (8 - s.length))) = x
  have hx : -9223372036854775808 ≤ wrap64 x ∧ wrap64 x ≤ 9223372036854775807 := by unfold wrap64; omega
  generalize wrap64 x = y at hx
  have hp : (0 : Int) < 2 ^ (8 * (8 - s.length)) := Int.pow_pos (by omega)
  generalize (2 : Int) ^ (8 * (8 - s.length)) = p at hp
  constructor
  · refine Int.le_ediv_of_mul_le hp ?_
    have : -9223372036854775808 * p ≤ -9223372036854775808 := by omega
    omega
  · refine Int.le_of_lt_add_one (Int.ediv_lt_of_lt_mul hp ?_)
    have : (9223372036854775807 + 1) * 1 ≤ (9223372036854775807 + 1) * p := Int.mul_le_mul_of_nonneg_left (by omega) (by omega)
    omega

/-- The number that bytes begin with, and what stands behind it. -/
def cutS : List UInt8 → Option (Int × List UInt8)
  | [] => none
  | b :: r => if 8 < b.toNat ∨ r.length < b.toNat then none else if wid (joinB (r.take b.toNat)) = b.toNat then some (joinB (r.take b.toNat), r.drop b.toNat) else none

theorem cut_nil (a : Option Addr) (c : Nat) (w : World) :
    Calls Tryz.prog 74 #[.slice a 0 c] w fun e w' => e = .returned (.tuple #[.int .i64 0, .slice none 0 0, .bool false]) ∧ w' = w := by
  go_enter Tryz.func74, Tryz.ntmps74
  go_wp2
  go_ret3
  exact ⟨rfl, rfl⟩

theorem elem33 : Tryz.prog.elem 67 = 5 := by kernel_rfl
theorem slice_from (g o len c k : Nat) (hk : k ≤ len) (w : World) : ∃ o', (k < c → o' = o + k) ∧ (Instr.sliceAt 67 (.slice (some ⟨g, o, none⟩) len c) (some (.int .i64 (k : Int))) none none).run Tryz.prog w = .ok (.slice (some ⟨g, o', none⟩) (len - k) (c - k)) w := by
  have hu : Tryz.prog.underlying 67 = some (.slice (Tryz.prog.elem 67)) := by rw [elem33]; exact Tryz.underlying67
  have hs := Tryz.sizeOf5 w
  refine ⟨if c = k then o else o + k, fun h => if_neg (by omega), ?_⟩
  rw [run_sliceAt_slice w 67 _ _ _ _ hu, run_slice_l w 67 _ len c hu .i64 k (by omega) (by omega), elem33, hs]
  by_cases hck : c = k <;> simp [Result.andThen, sliced, hck, Addr.add]
theorem slice_to (g o len c k : Nat) (hk : k ≤ c) (w : World) : ∃ o', (0 < c → o' = o) ∧ (Instr.sliceAt 67 (.slice (some ⟨g, o, none⟩) len c) none (some (.int .i64 (k : Int))) none).run Tryz.prog w = .ok (.slice (some ⟨g, o', none⟩) k c) w := by
  have hu : Tryz.prog.underlying 67 = some (.slice (Tryz.prog.elem 67)) := by rw [elem33]; exact Tryz.underlying67
  have hs := Tryz.sizeOf5 w
  refine ⟨o, fun _ => rfl, ?_⟩
  rw [run_sliceAt_slice w 67 _ _ _ _ hu, run_slice_h w 67 _ len c hu .i64 k (by omega) (by omega), elem33, hs]
  by_cases hck : c = 0 <;> simp [Result.andThen, sliced, hck, Addr.add]
theorem wpStill_slice_from {w : World} {ops : Array Oper} {rest : List Oper} {op : Oper} {a : Act} {Q : Act → Prop} (hgd : op.guard = none) (x y : Operand) (ho : op.op = .slice 67 x (some y) none none)
    (g o len c k : Nat) (hx : a.eval x = .slice (some ⟨g, o, none⟩) len c) (hy : a.eval y = .int .i64 (k : Int)) (hk : k ≤ len)
    (h : ∀ o', (k < c → o' = o + k) → wpStill Tryz.prog ops w Q rest (a.put op.dst (.slice (some ⟨g, o', none⟩) (len - k) (c - k)))) : wpStill Tryz.prog ops w Q (op :: rest) a := by
  obtain ⟨o', ho', hrun⟩ := slice_from g o len c k hk w
  refine wpStill_step (fun K hK => ?_)
  have hw : Region.wanted op (yielded ops a.tmps) = true := by simp [Region.wanted, hgd]
  rw [if_pos hw]
  unfold Oper.still execOp
  simp only [ho, hx, hy, Option.map_some, Option.map_none, hrun, Sem.run_bind, Result.andThen_ok, Sem.run_pure, Oper.stillUpon]
  exact ⟨trivial, hK _ (h o' ho')⟩
theorem wpList_slice_from {w : World} {ops : Array Oper} {rest : List Oper} {op : Oper} {a : Act} {Q : Exit → Act → World → Prop} (hgd : op.guard = none) (x y : Operand) (ho : op.op = .slice 67 x (some y) none none)
    (g o len c k : Nat) (hx : a.eval x = .slice (some ⟨g, o, none⟩) len c) (hy : a.eval y = .int .i64 (k : Int)) (hk : k ≤ len)
    (h : ∀ o', (k < c → o' = o + k) → wpList Tryz.prog ops Q rest (a.put op.dst (.slice (some ⟨g, o', none⟩) (len - k) (c - k))) w) : wpList Tryz.prog ops Q (op :: rest) a w := by
  obtain ⟨o', ho', hrun⟩ := slice_from g o len c k hk w
  refine wpList_plain hgd fun K hK => ?_
  unfold Oper.wp execOp
  simp only [ho, hx, hy, Option.map_some, Option.map_none, hrun, Sem.run_bind, Result.andThen_ok, Sem.run_pure]
  exact hK _ _ (h o' ho')
theorem wpList_slice_to {w : World} {ops : Array Oper} {rest : List Oper} {op : Oper} {a : Act} {Q : Exit → Act → World → Prop} (hgd : op.guard = none) (x y : Operand) (ho : op.op = .slice 67 x none (some y) none)
    (g o len c k : Nat) (hx : a.eval x = .slice (some ⟨g, o, none⟩) len c) (hy : a.eval y = .int .i64 (k : Int)) (hk : k ≤ c)
    (h : ∀ o', (0 < c → o' = o) → wpList Tryz.prog ops Q rest (a.put op.dst (.slice (some ⟨g, o', none⟩) k c)) w) : wpList Tryz.prog ops Q (op :: rest) a w := by
  obtain ⟨o', ho', hrun⟩ := slice_to g o len c k hk w
  refine wpList_plain hgd fun K hK => ?_
  unfold Oper.wp execOp
  simp only [ho, hx, hy, Option.map_some, Option.map_none, hrun, Sem.run_bind, Result.andThen_ok, Sem.run_pure]
  exact hK _ _ (h o' ho')

set_option maxRecDepth 100000 in
set_option maxHeartbeats 400000 in
theorem cut_far (g o c : Nat) (b : UInt8) (r : List UInt8) (w : World) (hr : w.rangeAt g o (bytesV (b :: r))) (hlen : r.length ≤ 1000000000000) (hb : 8 < b.toNat ∨ r.length < b.toNat) :
    Calls Tryz.prog 74 #[.slice (some ⟨g, o, none⟩) (r.length + 1) c] w fun e w' => e = .returned (.tuple #[.int .i64 0, .slice none 0 0, .bool false]) ∧ Same w w' := by
  have hcell : w.cell? ⟨g, o, none⟩ = some (.int .u8 b.toNat) := by have := hr 0 _ (by simp [bytesV]; rfl); simpa [bV] using this
  have hb2 := b.toNat_lt
  generalize b.toNat = x at hcell hb2 hb
  generalize r.length = l at *
  clear hr
  have hl0 : ((l : Int) + 1 == 0) = false := by simp; omega
  have hwx : IntKind.i64.wrap (x : Int) = (x : Int) := by rw [IntKind.wrap_i64]; omega
  by_cases hx : 8 < x
  all_goals
    go_enter Tryz.func74, Tryz.ntmps74
    go_wp2
    refine wp_region_still_lit follows' (by kernel_rfl) ?_
    change wpStill _ _ w.drew _ _ _
    iterate 5 still_step
    refine wpStill_slice_from rfl _ _ rfl g o (l + 1) c 1 rfl rfl (by omega) ?_
    intro o' ho'
    clear ho'
    iterate 2 still_step
    refine wpStill_nil ?_
    go_wp2
    go_ret3
    exact ⟨rfl, (Same.refl w).drew⟩
end Go.Proofs.YteaacodloabdcaaGreatDoor

namespace Go.Proofs.YteaacodloabdcaaGreatDoor
open Go.RowKit Go.Maps

theorem join_len (g o c k : Nat) (s : List UInt8) (w : World) (hk : s.length = k) (hs : k ≤ 8) (hr : w.rangeAt g o (bytesV s)) :
    Calls Tryz.prog 112 #[.slice (some ⟨g, o, none⟩) k c] w fun e w' => e = .returned (.int .i64 (joinB s)) ∧ w' = w := by
  subst hk; exact join_any g o c s w hs hr

theorem rangeAt_nil (w : World) (b o : Nat) : w.rangeAt b o [] := fun j v hv => by simp at hv

set_option maxRecDepth 100000 in
set_option maxHeartbeats 1000000 in
theorem cut_bad (g o c : Nat) (b : UInt8) (r : List UInt8) (w : World) (hr : w.rangeAt g o (bytesV (b :: r))) (hc : r.length + 1 ≤ c) (hlen : r.length ≤ 1000000000000) (h8 : b.toNat ≤ 8) (hbl : b.toNat ≤ r.length) (hwd : wid (joinB (r.take b.toNat)) ≠ b.toNat) :
    Calls Tryz.prog 74 #[.slice (some ⟨g, o, none⟩) (r.length + 1) c] w fun e w' => e = .returned (.tuple #[.int .i64 0, .slice none 0 0, .bool false]) ∧ Same w w' := by
  have hcell : w.cell? ⟨g, o, none⟩ = some (.int .u8 b.toNat) := by have := hr 0 _ (by simp [bytesV]; rfl); simpa [bV] using this
  have hrr : w.rangeAt g (o + 1) (bytesV r) := by
    have : w.rangeAt g o ([bV b] ++ bytesV r) := hr
    rw [rangeAt_append] at this
    exact this.2
  have hrt : w.rangeAt g (o + 1) (bytesV (r.take b.toNat)) := by
    have : w.rangeAt g (o + 1) (bytesV (r.take b.toNat) ++ bytesV (r.drop b.toNat)) := by rw [← bytesV_append, List.take_append_drop]; exact hrr
    rw [rangeAt_append] at this
    exact this.1
  have htl : (r.take b.toNat).length = b.toNat := by rw [List.length_take]; omega
  have hjb := joinB_bound (r.take b.toNat)
  have HJ : Hid ((r.take b.toNat).length = b.toNat ∧ w.rangeAt g (o + 1) (bytesV (r.take b.toNat))) := ⟨htl, hrt⟩
  clear hr hrr hrt htl
  have hne : ((wid (joinB (r.take b.toNat)) : Int) != (b.toNat : Int)) = true := by simp; omega
  obtain ⟨t, ht⟩ : ∃ t, t = r.take b.toNat := ⟨_, rfl⟩
  rw [← ht] at HJ hjb hne
  clear ht hwd
  generalize b.toNat = x at hcell HJ hne h8 hbl
  generalize r.length = l at hc hlen hbl ⊢
  have hl0 : ((l : Int) + 1 == 0) = false := by simp; omega
  have hwx : IntKind.i64.wrap (x : Int) = (x : Int) := by rw [IntKind.wrap_i64]; omega
  go_enter Tryz.func74, Tryz.ntmps74
  go_wp2
  refine wp_region_still_lit follows' (by kernel_rfl) ?_
  change wpStill _ _ w.drew _ _ _
  iterate 5 still_step
  refine wpStill_slice_from rfl _ _ rfl g o (l + 1) c 1 rfl rfl (by omega) ?_
  intro o' ho'
  iterate 2 still_step
  refine wpStill_nil ?_
  have HO : Hid (1 < c → o' = o + 1) := ho'
  clear ho'
  go_wp2_with (refine wpList_slice_to rfl _ _ rfl g o' l (c - 1) x rfl rfl (by omega) ?_; intro o2 ho2; have HO2 : Hid (0 < c - 1 → o2 = o') := ho2; clear ho2)
  have hrt2 : w.drew.rangeAt g o2 (bytesV t) := by
    rcases Nat.eq_zero_or_pos x with hx0 | hx0
    · have : t = [] := List.eq_nil_of_length_eq_zero (by rw [HJ.out.1, hx0])
      rw [this]; exact rangeAt_nil _ _ _
    · rw [HO2.out (by omega), HO.out (by omega)]; exact (Same.refl w).drew.range HJ.out.2
  refine (join_len g o2 (c - 1) x t w.drew HJ.out.1 h8 hrt2).mono ?_
  rintro e w1 ⟨rfl, rfl⟩
  generalize joinB t = q at hjb hne ⊢
  clear hrt2
  go_wp2_with (go_at_call 113; refine (width_all q _ hjb.1 hjb.2).mono ?_; rintro e w2 ⟨rfl, rfl⟩)
  go_ret3
  exact ⟨rfl, (Same.refl w).drew⟩

set_option maxRecDepth 100000 in
set_option maxHeartbeats 1000000 in
theorem cut_yes (g o c : Nat) (b : UInt8) (r : List UInt8) (w : World) (hr : w.rangeAt g o (bytesV (b :: r))) (hc : r.length + 1 ≤ c) (hlen : r.length ≤ 1000000000000) (h8 : b.toNat ≤ 8) (hbl : b.toNat ≤ r.length) (hwd : wid (joinB (r.take b.toNat)) = b.toNat) :
    Calls Tryz.prog 74 #[.slice (some ⟨g, o, none⟩) (r.length + 1) c] w fun e w' => ∃ o3, e = .returned (.tuple #[.int .i64 (joinB (r.take b.toNat)), .slice (some ⟨g, o3, none⟩) (r.length - b.toNat) (c - 1 - b.toNat), .bool true]) ∧ Same w w' ∧ w.rangeAt g o3 (bytesV (r.drop b.toNat)) := by
  have hcell : w.cell? ⟨g, o, none⟩ = some (.int .u8 b.toNat) := by have := hr 0 _ (by simp [bytesV]; rfl); simpa [bV] using this
  have hrr : w.rangeAt g (o + 1) (bytesV r) := by
    have : w.rangeAt g o ([bV b] ++ bytesV r) := hr
    rw [rangeAt_append] at this
    exact this.2
  have hrt : w.rangeAt g (o + 1) (bytesV (r.take b.toNat)) := by
    have : w.rangeAt g (o + 1) (bytesV (r.take b.toNat) ++ bytesV (r.drop b.toNat)) := by rw [← bytesV_append, List.take_append_drop]; exact hrr
    rw [rangeAt_append] at this
    exact this.1
  have hrd : b.toNat < r.length → w.rangeAt g (o + 1 + b.toNat) (bytesV (r.drop b.toNat)) := fun _ => by
    have : w.rangeAt g (o + 1) (bytesV (r.take b.toNat) ++ bytesV (r.drop b.toNat)) := by rw [← bytesV_append, List.take_append_drop]; exact hrr
    rw [rangeAt_append] at this
    have h2 := this.2
    rw [bytesV_length, List.length_take, Nat.min_eq_left (by omega)] at h2
    exact h2
  have hd0 : r.length ≤ b.toNat → r.drop b.toNat = [] := fun h => List.drop_of_length_le h
  have HDr : Hid ((b.toNat < r.length → w.rangeAt g (o + 1 + b.toNat) (bytesV (r.drop b.toNat))) ∧ (r.length ≤ b.toNat → r.drop b.toNat = [])) := ⟨hrd, hd0⟩
  clear hrd hd0
  have htl : (r.take b.toNat).length = b.toNat := by rw [List.length_take]; omega
  have hjb := joinB_bound (r.take b.toNat)
  have HJ : Hid ((r.take b.toNat).length = b.toNat ∧ w.rangeAt g (o + 1) (bytesV (r.take b.toNat))) := ⟨htl, hrt⟩
  clear hr hrr hrt htl
  have hne : ((wid (joinB (r.take b.toNat)) : Int) != (b.toNat : Int)) = false := by simp; omega
  obtain ⟨t, ht⟩ : ∃ t, t = r.take b.toNat := ⟨_, rfl⟩
  rw [← ht] at HJ hjb hne ⊢
  obtain ⟨u, hu⟩ : ∃ u, u = r.drop b.toNat := ⟨_, rfl⟩
  rw [← hu] at HDr ⊢
  clear hu
  clear ht hwd
  generalize b.toNat = x at hcell HJ hne h8 hbl HDr ⊢
  generalize r.length = l at hc hlen hbl HDr ⊢
  have hl0 : ((l : Int) + 1 == 0) = false := by simp; omega
  have hwx : IntKind.i64.wrap (x : Int) = (x : Int) := by rw [IntKind.wrap_i64]; omega
  go_enter Tryz.func74, Tryz.ntmps74
  go_wp2
  refine wp_region_still_lit follows' (by kernel_rfl) ?_
  change wpStill _ _ w.drew _ _ _
  iterate 5 still_step
  refine wpStill_slice_from rfl _ _ rfl g o (l + 1) c 1 rfl rfl (by omega) ?_
  intro o' ho'
  iterate 2 still_step
  refine wpStill_nil ?_
  have HO : Hid (1 < c → o' = o + 1) := ho'
  clear ho'
  go_wp2_with (refine wpList_slice_to rfl _ _ rfl g o' l (c - 1) x rfl rfl (by omega) ?_; intro o2 ho2; have HO2 : Hid (0 < c - 1 → o2 = o') := ho2; clear ho2)
  have hrt2 : w.drew.rangeAt g o2 (bytesV t) := by
    rcases Nat.eq_zero_or_pos x with hx0 | hx0
    · have : t = [] := List.eq_nil_of_length_eq_zero (by rw [HJ.out.1, hx0])
      rw [this]; exact rangeAt_nil _ _ _
    · rw [HO2.out (by omega), HO.out (by omega)]; exact (Same.refl w).drew.range HJ.out.2
  refine (join_len g o2 (c - 1) x t w.drew HJ.out.1 h8 hrt2).mono ?_
  rintro e w1 ⟨rfl, rfl⟩
  generalize hq : joinB t = q at hjb hne ⊢
  have HQ : Hid (joinB t = q) := hq
  clear hq
  clear hrt2
  go_wp2_with (go_at_call 113; refine (width_all q _ hjb.1 hjb.2).mono ?_; rintro e w2 ⟨rfl, rfl⟩)
  refine wp_region_still_lit follows' (by kernel_rfl) ?_
  change wpStill _ _ w.drew.drew _ _ _
  iterate 3 still_step
  refine wpStill_slice_from rfl _ _ rfl g o' l (c - 1) x rfl rfl (by omega) ?_
  intro o3 ho3
  have HO3 : Hid (x < c - 1 → o3 = o' + x) := ho3
  clear ho3
  iterate 3 still_step
  refine wpStill_nil ?_
  go_wp2
  go_ret3
  refine ⟨o3, by rw [HQ.out]; rfl, (Same.refl w).drew.drew, ?_⟩
  rcases Nat.lt_or_ge x l with hxl | hxl
  · rw [HO3.out (by omega), HO.out (by omega)]; exact HDr.out.1 hxl
  · rw [HDr.out.2 hxl]; exact rangeAt_nil _ _ _

end Go.Proofs.YteaacodloabdcaaGreatDoor

namespace Go.Proofs.YteaacodloabdcaaGreatDoor
open Go.RowKit Go.Maps

/-- A Reader in memory: what is left of its bytes, its error. -/
structure RdAt (w : World) (rb : Nat) (s : List UInt8) (a : Option Addr) (c : Nat) (err : Int) : Prop where
  c0 : w.cell? ⟨rb, 0, none⟩ = some (.slice a s.length c)
  c1 : w.cell? ⟨rb, 1, none⟩ = some (.int .i64 err)
  f : ∀ o, w.frozen? ⟨rb, o, none⟩ = false
  sh : (a = none ∧ s = []) ∨ ∃ g o, a = some ⟨g, o, none⟩ ∧ g ≠ rb ∧ w.rangeAt g o (bytesV s)
  hc : s.length ≤ c
  hl : s.length ≤ 1000000000
theorem RdAt.lt {w : World} {rb : Nat} {s : List UInt8} {a : Option Addr} {c : Nat} {err : Int} (h : RdAt w rb s a c err) : rb < w.heap.size := World.block_lt_of_cell? w _ h.c0

theorem rerr_nil (w : World) : Calls Tryz.prog 30 #[.pointer none] w fun e w' => e = .returned (.int .i64 1) ∧ w' = w := by
  go_enter Tryz.func30, Tryz.ntmps30
  go_wp2
  go_ret
  exact ⟨rfl, rfl⟩
theorem rerr_cell (rb : Nat) (err : Int) (w : World) (c1 : w.cell? ⟨rb, 1, none⟩ = some (.int .i64 err)) : Calls Tryz.prog 30 #[.pointer (some ⟨rb, 0, none⟩)] w fun e w' => e = .returned (.int .i64 err) ∧ w' = w := by
  go_enter Tryz.func30, Tryz.ntmps30
  go_wp2
  go_ret
  exact ⟨rfl, rfl⟩
theorem rfail_any (rb : Nat) (v u : Value) (w : World) (c0 : w.cell? ⟨rb, 0, none⟩ = some v) (c1 : w.cell? ⟨rb, 1, none⟩ = some u) (f : ∀ o, w.frozen? ⟨rb, o, none⟩ = false) :
    Calls Tryz.prog 75 #[.pointer (some ⟨rb, 0, none⟩)] w fun e w' => e = .returned (.tuple #[]) ∧ w' = (w.setCell ⟨rb, 0, none⟩ (.slice none 0 0)).setCell ⟨rb, 1, none⟩ (.int .i64 1) := by
  have f0 := f 0
  have f1 := f 1
  clear f
  go_enter Tryz.func75, Tryz.ntmps75
  go_wp2
  go_end0
  exact ⟨rfl, rfl⟩
theorem rfail_at {w : World} {rb : Nat} {s : List UInt8} {a : Option Addr} {c : Nat} {err : Int} (h : RdAt w rb s a c err) :
    Calls Tryz.prog 75 #[.pointer (some ⟨rb, 0, none⟩)] w fun e w' => e = .returned (.tuple #[]) ∧ RdAt w' rb [] none 0 1 ∧ Keeps (fun i => i = rb) w w' := by
  refine (rfail_any rb _ _ w h.c0 h.c1 h.f).mono ?_
  rintro e w' ⟨rfl, rfl⟩
  refine ⟨rfl, ⟨?_, ?_, fun o => ?_, Or.inl ⟨rfl, rfl⟩, by simp, by simp⟩, ((Keeps.refl (fun i => i = rb) w).setCell (p := ⟨rb, 0, none⟩) rfl _).setCell (p := ⟨rb, 1, none⟩) rfl _⟩
  · rw [World.cell?_setCell_other _ _ _ _ (by simp), World.cell?_setCell_same _ _ _ h.c0]; rfl
  · rw [World.cell?_setCell_same _ _ _ (by rw [World.cell?_setCell_other _ _ _ _ (by simp)]; exact h.c1)]
  · rw [World.frozen?_setCell, World.frozen?_setCell]; exact h.f o

/-- What Int reads. -/
def rdInt (s : List UInt8) (err : Int) : Int × List UInt8 × Int :=
  if err = 0 then (match cutS s with | some (n, r) => (n, r, 0) | none => (0, [], 1)) else (0, s, err)

theorem RdAt.same {w w' : World} {rb : Nat} {s : List UInt8} {a : Option Addr} {c : Nat} {err : Int} (h : RdAt w rb s a c err) (k : Same w w') : RdAt w' rb s a c err :=
  { h with
    c0 := (k.cell _).trans h.c0
    c1 := (k.cell _).trans h.c1
    f := fun o => (k.frozen _).trans (h.f o)
    sh := by
      rcases h.sh with x | ⟨g, o, x, y, z⟩
      · exact Or.inl x
      · exact Or.inr ⟨g, o, x, y, k.range z⟩ }

/-- Int, where cutInt finds none. -/
theorem rint_bad {w : World} {rb : Nat} {s : List UInt8} {a : Option Addr} {c : Nat} (h : RdAt w rb s a c 0)
    (hcut : Calls Tryz.prog 74 #[.slice a s.length c] w fun e w' => e = .returned (.tuple #[.int .i64 0, .slice none 0 0, .bool false]) ∧ Same w w') :
    Calls Tryz.prog 57 #[.pointer (some ⟨rb, 0, none⟩)] w fun e w' => e = .returned (.int .i64 0) ∧ RdAt w' rb [] none 0 1 ∧ Keeps (fun i => i = rb) w w' := by
  have c0 := h.c0
  have H : Hid (Calls Tryz.prog 74 #[.slice a s.length c] w fun e w' => e = .returned (.tuple #[.int .i64 0, .slice none 0 0, .bool false]) ∧ Same w w') := hcut
  clear hcut
  go_enter Tryz.func57, Tryz.ntmps57
  go_wp2_with (first
    | (go_at_call 30; refine (rerr_cell rb 0 _ h.c1).mono ?_; rintro e w' ⟨rfl, hw⟩; obtain rfl := hw.symm)
    | (go_at_call 74; refine H.out.mono ?_; rintro e w1 ⟨rfl, hs1⟩)
    | (go_at_call 75; refine (rfail_at (h.same hs1)).mono ?_; rintro e w2 ⟨rfl, h2, hk2⟩))
  go_ret
  exact ⟨rfl, h2, (hs1.keeps _).trans hk2⟩

theorem rint_err {w : World} {rb : Nat} {s : List UInt8} {a : Option Addr} {c : Nat} {err : Int} (h : RdAt w rb s a c err) (he : err ≠ 0) :
    Calls Tryz.prog 57 #[.pointer (some ⟨rb, 0, none⟩)] w fun e w' => e = .returned (.int .i64 0) ∧ w' = w := by
  have hne : (err != 0) = true := by simpa using he
  clear he
  go_enter Tryz.func57, Tryz.ntmps57
  go_wp2_with (go_at_call 30; refine (rerr_cell rb err _ h.c1).mono ?_; rintro e w' ⟨rfl, hw⟩; obtain rfl := hw.symm)
  go_ret
  exact ⟨rfl, rfl⟩

theorem rint_yes {w : World} {rb : Nat} {s : List UInt8} {a : Option Addr} {c : Nat} (h : RdAt w rb s a c 0) (n : Int) (g l c' : Nat) (R : Nat → Prop)
    (hcut : Calls Tryz.prog 74 #[.slice a s.length c] w fun e w' => ∃ o3, e = .returned (.tuple #[.int .i64 n, .slice (some ⟨g, o3, none⟩) l c', .bool true]) ∧ Same w w' ∧ R o3) :
    Calls Tryz.prog 57 #[.pointer (some ⟨rb, 0, none⟩)] w fun e w' => ∃ o3 w1, e = .returned (.int .i64 n) ∧ Same w w1 ∧ w' = w1.setCell ⟨rb, 0, none⟩ (.slice (some ⟨g, o3, none⟩) l c') ∧ R o3 := by
  have c0 := h.c0
  have H : Hid (Calls Tryz.prog 74 #[.slice a s.length c] w fun e w' => ∃ o3, e = .returned (.tuple #[.int .i64 n, .slice (some ⟨g, o3, none⟩) l c', .bool true]) ∧ Same w w' ∧ R o3) := hcut
  clear hcut
  go_enter Tryz.func57, Tryz.ntmps57
  go_wp2_with (first
    | (go_at_call 30; refine (rerr_cell rb 0 _ h.c1).mono ?_; rintro e w' ⟨rfl, hw⟩; obtain rfl := hw.symm)
    | (go_at_call 74; refine H.out.mono ?_; rintro e w1 ⟨o3, rfl, hs1, hR⟩; have d0 := (h.same hs1).c0; have d1 := (h.same hs1).f 0))
  go_ret
  exact ⟨o3, w1, rfl, hs1, rfl, hR⟩
end Go.Proofs.YteaacodloabdcaaGreatDoor

namespace Go.Proofs.YteaacodloabdcaaGreatDoor
open Go.RowKit Go.Maps

theorem RdAt.stored {w w1 : World} {rb : Nat} {s t : List UInt8} {a : Option Addr} {c g o l c' : Nat} {err : Int} (h : RdAt w rb s a c err) (hs : Same w w1) (hg : g ≠ rb) (hl : l = t.length) (hr : w.rangeAt g o (bytesV t)) (hc : t.length ≤ c') (ht : t.length ≤ 1000000000) :
    RdAt (w1.setCell ⟨rb, 0, none⟩ (.slice (some ⟨g, o, none⟩) l c')) rb t (some ⟨g, o, none⟩) c' err ∧ Keeps (fun i => i = rb) w (w1.setCell ⟨rb, 0, none⟩ (.slice (some ⟨g, o, none⟩) l c')) := by
  subst hl
  have h1 := h.same hs
  have hk : Keeps (fun i => i = rb) w1 (w1.setCell ⟨rb, 0, none⟩ (.slice (some ⟨g, o, none⟩) t.length c')) := (Keeps.refl (fun i => i = rb) w1).setCell (p := ⟨rb, 0, none⟩) rfl _
  refine ⟨⟨?_, ?_, fun o => ?_, Or.inr ⟨g, o, rfl, hg, ?_⟩, hc, ht⟩, (hs.keeps _).trans hk⟩
  · rw [World.cell?_setCell_same _ _ _ h1.c0]
  · rw [World.cell?_setCell_other _ _ _ _ (by simp)]; exact h1.c1
  · rw [World.frozen?_setCell]; exact h1.f o
  · intro j v hv
    have e1 := hs.range hr j v hv
    exact (hk.cell (p := ⟨g, o + j, none⟩) (World.block_lt_of_cell? _ _ e1) hg).trans e1

theorem cutS_len (s r : List UInt8) (n : Int) (h : cutS s = some (n, r)) : r.length ≤ s.length := by
  cases s with
  | nil => simp [cutS] at h
  | cons b t =>
    simp only [cutS] at h
    split at h
    · cases h
    · split at h
      · simp only [Option.some.injEq, Prod.mk.injEq] at h
        rw [← h.2]; simp; omega
      · cases h

/-- Int. -/
theorem rint_any {w : World} {rb : Nat} {s : List UInt8} {a : Option Addr} {c : Nat} {err : Int} (h : RdAt w rb s a c err) :
    Calls Tryz.prog 57 #[.pointer (some ⟨rb, 0, none⟩)] w fun e w' => ∃ a' c', e = .returned (.int .i64 (rdInt s err).1) ∧ RdAt w' rb (rdInt s err).2.1 a' c' (rdInt s err).2.2 ∧ Keeps (fun i => i = rb) w w' ∧ ((rdInt s err).2.2 = 0 → ∃ g o, a' = some ⟨g, o, none⟩) := by
  by_cases he : err = 0
  · subst he
    have bad : (hn : cutS s = none) → (Calls Tryz.prog 74 #[.slice a s.length c] w fun e w' => e = .returned (.tuple #[.int .i64 0, .slice none 0 0, .bool false]) ∧ Same w w') →
        Calls Tryz.prog 57 #[.pointer (some ⟨rb, 0, none⟩)] w fun e w' => ∃ a' c', e = .returned (.int .i64 (rdInt s 0).1) ∧ RdAt w' rb (rdInt s 0).2.1 a' c' (rdInt s 0).2.2 ∧ Keeps (fun i => i = rb) w w' ∧ ((rdInt s 0).2.2 = 0 → ∃ g o, a' = some ⟨g, o, none⟩) := fun hn hcut => by
      refine (rint_bad h hcut).mono ?_
      rintro e w' ⟨rfl, h2, hk⟩
      have e0 : rdInt s 0 = (0, [], 1) := by simp [rdInt, hn]
      rw [e0]
      exact ⟨none, 0, rfl, h2, hk, fun x => by simp at x⟩
    rcases h.sh with ⟨rfl, rfl⟩ | ⟨g, o, rfl, hg, hr⟩
    · exact bad rfl ((cut_nil none c w).mono (fun e w' ⟨x, y⟩ => ⟨x, by subst y; exact Same.refl _⟩))
    · cases s with
      | nil => exact bad rfl ((cut_nil (some ⟨g, o, none⟩) c w).mono (fun e w' ⟨x, y⟩ => ⟨x, by subst y; exact Same.refl _⟩))
      | cons b r =>
        have hc := h.hc
        have hl := h.hl
        simp only [List.length_cons] at hc hl
        by_cases hfar : 8 < b.toNat ∨ r.length < b.toNat
        · exact bad (by simp only [cutS]; rw [if_pos hfar]) (cut_far g o c b r w hr (by omega) hfar)
        · have hb1 : b.toNat ≤ 8 := by omega
          have hb2 : b.toNat ≤ r.length := by omega
          by_cases hwd : wid (joinB (r.take b.toNat)) = b.toNat
          · have hcs : cutS (b :: r) = some (joinB (r.take b.toNat), r.drop b.toNat) := by simp only [cutS]; rw [if_neg hfar, if_pos hwd]
            refine (rint_yes h _ g _ _ _ (cut_yes g o c b r w hr hc (by omega) hb1 hb2 hwd)).mono ?_
            rintro e w' ⟨o3, w1, rfl, hs1, rfl, hr3⟩
            have e0 : rdInt (b :: r) 0 = (joinB (r.take b.toNat), r.drop b.toNat, 0) := by simp [rdInt, hcs]
            rw [e0]
            obtain ⟨h2, hk⟩ := h.stored (t := r.drop b.toNat) (c' := c - 1 - b.toNat) (l := r.length - b.toNat) hs1 hg (by simp) hr3 (by simp; omega) (by simp; omega)
            exact ⟨_, _, rfl, h2, hk, fun _ => ⟨_, _, rfl⟩⟩
          · exact bad (by simp only [cutS]; rw [if_neg hfar, if_neg hwd]) (cut_bad g o c b r w hr hc (by omega) hb1 hb2 hwd)
  · refine (rint_err h he).mono ?_
    rintro e w' ⟨rfl, rfl⟩
    have e0 : rdInt s err = (0, s, err) := by simp [rdInt, he]
    rw [e0]
    exact ⟨a, c, rfl, h, Keeps.refl _ _, fun x => absurd x he⟩

theorem rint_nil (w : World) : Calls Tryz.prog 57 #[.pointer none] w fun e w' => e = .returned (.int .i64 0) ∧ w' = w := by
  go_enter Tryz.func57, Tryz.ntmps57
  go_wp2_with (go_at_call 30; refine (rerr_nil _).mono ?_; rintro e w' ⟨rfl, hw⟩; obtain rfl := hw.symm)
  go_ret
  exact ⟨rfl, rfl⟩

/-- What End tells. -/
def rdEnd (s : List UInt8) (err : Int) : Int := if err = 0 then (if s = [] then 0 else 1) else err
theorem rend_any {w : World} {rb : Nat} {s : List UInt8} {a : Option Addr} {c : Nat} {err : Int} (h : RdAt w rb s a c err) :
    Calls Tryz.prog 169 #[.pointer (some ⟨rb, 0, none⟩)] w fun e w' => e = .returned (.int .i64 (rdEnd s err)) ∧ w' = w := by
  have c0 := h.c0
  by_cases he : err = 0
  · subst he
    by_cases hs : s = []
    · subst hs
      go_enter Tryz.func169, Tryz.ntmps169
      go_wp2_with (go_at_call 30; refine (rerr_cell rb 0 _ h.c1).mono ?_; rintro e w' ⟨rfl, hw⟩; obtain rfl := hw.symm)
      go_ret
      exact ⟨rfl, rfl⟩
    · have hp : 0 < s.length := List.length_pos_iff.2 hs
      have HE : Hid (rdEnd s 0 = 1) := by show rdEnd s 0 = 1; simp [rdEnd, hs]
      clear hs
      go_enter Tryz.func169, Tryz.ntmps169
      go_wp2_with (go_at_call 30; refine (rerr_cell rb 0 _ h.c1).mono ?_; rintro e w' ⟨rfl, hw⟩; obtain rfl := hw.symm)
      go_ret
      exact ⟨by rw [HE.out]; rfl, rfl⟩
  · have hne : (err != 0) = true := by simpa using he
    have HE : Hid (rdEnd s err = err) := by show rdEnd s err = err; simp [rdEnd, he]
    clear he
    go_enter Tryz.func169, Tryz.ntmps169
    go_wp2_with (go_at_call 30; refine (rerr_cell rb err _ h.c1).mono ?_; rintro e w' ⟨rfl, hw⟩; obtain rfl := hw.symm)
    go_ret
    exact ⟨by rw [HE.out]; rfl, rfl⟩
theorem rend_nil (w : World) : Calls Tryz.prog 169 #[.pointer none] w fun e w' => e = .returned (.int .i64 1) ∧ w' = w := by
  go_enter Tryz.func169, Tryz.ntmps169
  go_wp2_with (go_at_call 30; refine (rerr_nil _).mono ?_; rintro e w' ⟨rfl, hw⟩; obtain rfl := hw.symm)
  go_ret
  exact ⟨rfl, rfl⟩
end Go.Proofs.YteaacodloabdcaaGreatDoor

namespace Go.Proofs.YteaacodloabdcaaGreatDoor
open Go.RowKit Go.Maps

/-- What Text reads. -/
def rdText (s : List UInt8) (err : Int) (most : Int) : List UInt8 × List UInt8 × Int :=
  if (rdInt s err).2.2 = 0 then
    if (rdInt s err).1 < 0 ∨ most < (rdInt s err).1 ∨ ((rdInt s err).2.1.length : Int) < (rdInt s err).1 then ([], [], 1)
    else ((rdInt s err).2.1.take (rdInt s err).1.toNat, (rdInt s err).2.1.drop (rdInt s err).1.toNat, 0)
  else ([], (rdInt s err).2.1, (rdInt s err).2.2)

theorem conv_bytes (g o k c : Nat) (s : List UInt8) (w : World) (hk : s.length = k) (hr : w.rangeAt g o (bytesV s)) : (convert 67 9 (.slice (some ⟨g, o, none⟩) k c)).run Tryz.prog w = .ok (.string ⟨s.toArray⟩) w := by
  subst hk
  exact run_convert_bytes_back w 67 9 5 ⟨g, o, none⟩ c s Tryz.underlying67 Tryz.underlying5 Tryz.underlying9 (fun j hj => by rw [Addr.add_mid]; exact hr j _ (by simp [bytesV, List.getElem?_eq_getElem hj, bV]))

/-- The contract of Int, as a walk takes it. -/
def IntC (w : World) (rb : Nat) (n : Int) (r : List UInt8) (e1 : Int) : Prop :=
  Calls Tryz.prog 57 #[.pointer (some ⟨rb, 0, none⟩)] w fun e w' => ∃ a' c', e = .returned (.int .i64 n) ∧ RdAt w' rb r a' c' e1 ∧ Keeps (fun i => i = rb) w w' ∧ (e1 = 0 → ∃ g o, a' = some ⟨g, o, none⟩)

theorem rtext_err {w : World} {rb : Nat} (n most : Int) (r : List UInt8) (e1 : Int) (H : IntC w rb n r e1) (he : (e1 != 0) = true) :
    Calls Tryz.prog 168 #[.pointer (some ⟨rb, 0, none⟩), .int .i64 most] w fun e w' => ∃ a' c', e = .returned (.string ⟨#[]⟩) ∧ RdAt w' rb r a' c' e1 ∧ Keeps (fun i => i = rb) w w' := by
  go_enter Tryz.func168, Tryz.ntmps168
  go_wp2_with (first
    | (go_at_call 57; refine H.mono ?_; rintro e w1 ⟨a1, c1, rfl, h1, hk1, _⟩)
    | (go_at_call 30; refine (rerr_cell rb e1 _ h1.c1).mono ?_; rintro e w2 ⟨rfl, hw⟩; obtain rfl := hw.symm))
  go_ret
  exact ⟨a1, c1, rfl, h1, hk1⟩

theorem rtext_bad {w : World} {rb : Nat} (n most : Int) (r : List UInt8) (H : IntC w rb n r 0) (hb : n < 0 ∨ most < n ∨ (r.length : Int) < n) :
    Calls Tryz.prog 168 #[.pointer (some ⟨rb, 0, none⟩), .int .i64 most] w fun e w' => ∃ a' c', e = .returned (.string ⟨#[]⟩) ∧ RdAt w' rb [] a' c' 1 ∧ Keeps (fun i => i = rb) w w' := by
  by_cases hn : n < 0
  · go_enter Tryz.func168, Tryz.ntmps168
    go_wp2_with (first
      | (go_at_call 57; refine H.mono ?_; rintro e w1 ⟨a1, c1, rfl, h1, hk1, _⟩; have c0 := h1.c0)
      | (go_at_call 30; refine (rerr_cell rb 0 _ h1.c1).mono ?_; rintro e w2 ⟨rfl, hw⟩; obtain rfl := hw.symm)
      | (go_at_call 75; refine (rfail_at h1).mono ?_; rintro e w3 ⟨rfl, h3, hk3⟩))
    go_ret
    exact ⟨none, 0, rfl, h3, hk1.trans hk3⟩
  · by_cases hm : most < n
    · go_enter Tryz.func168, Tryz.ntmps168
      go_wp2_with (first
        | (go_at_call 57; refine H.mono ?_; rintro e w1 ⟨a1, c1, rfl, h1, hk1, _⟩; have c0 := h1.c0)
        | (go_at_call 30; refine (rerr_cell rb 0 _ h1.c1).mono ?_; rintro e w2 ⟨rfl, hw⟩; obtain rfl := hw.symm)
        | (go_at_call 75; refine (rfail_at h1).mono ?_; rintro e w3 ⟨rfl, h3, hk3⟩))
      go_ret
      exact ⟨none, 0, rfl, h3, hk1.trans hk3⟩
    · have hl : (r.length : Int) < n := by omega
      go_enter Tryz.func168, Tryz.ntmps168
      go_wp2_with (first
        | (go_at_call 57; refine H.mono ?_; rintro e w1 ⟨a1, c1, rfl, h1, hk1, _⟩; have c0 := h1.c0)
        | (go_at_call 30; refine (rerr_cell rb 0 _ h1.c1).mono ?_; rintro e w2 ⟨rfl, hw⟩; obtain rfl := hw.symm)
        | (go_at_call 75; refine (rfail_at h1).mono ?_; rintro e w3 ⟨rfl, h3, hk3⟩))
      go_ret
      exact ⟨none, 0, rfl, h3, hk1.trans hk3⟩
end Go.Proofs.YteaacodloabdcaaGreatDoor

namespace Go.Proofs.YteaacodloabdcaaGreatDoor
open Go.RowKit Go.Maps

theorem conv_to {w : World} {g o o2 c k : Nat} {r : List UInt8} (h : w.rangeAt g o (bytesV (r.take k))) (hk : (r.take k).length = k) (ho : 0 < c → o2 = o) (hc : r.length ≤ c) (hl : k ≤ r.length) :
    (convert 67 9 (.slice (some ⟨g, o2, none⟩) k c)).run Tryz.prog w = .ok (.string ⟨(r.take k).toArray⟩) w := by
  refine conv_bytes g o2 k c (r.take k) w hk ?_
  rcases Nat.eq_zero_or_pos k with hx | hx
  · subst hx; exact rangeAt_nil _ _ _
  · rw [ho (by omega)]; exact h

set_option maxRecDepth 100000 in
set_option maxHeartbeats 400000 in
theorem rtext_yes {w : World} {rb : Nat} (k : Nat) (most : Int) (r : List UInt8) (H : IntC w rb k r 0) (hm : (k : Int) ≤ most) (hl : k ≤ r.length) :
    Calls Tryz.prog 168 #[.pointer (some ⟨rb, 0, none⟩), .int .i64 most] w fun e w' => ∃ a' c', e = .returned (.string ⟨(r.take k).toArray⟩) ∧ RdAt w' rb (r.drop k) a' c' 0 ∧ Keeps (fun i => i = rb) w w' := by
  go_enter Tryz.func168, Tryz.ntmps168
  go_wp2_with fail
  refine H.mono ?_
  rintro e w1 ⟨a1, c1, rfl, h1, hk1, hsome⟩
  obtain ⟨g, o, rfl⟩ := hsome rfl
  clear hsome
  obtain ⟨hg, hr⟩ : g ≠ rb ∧ w1.rangeAt g o (bytesV r) := by
    rcases h1.sh with ⟨x, _⟩ | ⟨g', o', x, y, z⟩
    · cases x
    · cases x; exact ⟨y, z⟩
  have c0 := h1.c0
  have cf := h1.f 0
  have hcap := h1.hc
  have htl : (r.take k).length = k := by rw [List.length_take]; omega
  have hrt : w1.rangeAt g o (bytesV (r.take k)) ∧ w1.rangeAt g (o + k) (bytesV (r.drop k)) := by
    have : w1.rangeAt g o (bytesV (r.take k) ++ bytesV (r.drop k)) := by rw [← bytesV_append, List.take_append_drop]; exact hr
    rw [rangeAt_append, bytesV_length, htl] at this
    exact this
  have HR : Hid (w1.rangeAt g o (bytesV (r.take k)) ∧ w1.rangeAt g (o + k) (bytesV (r.drop k))) := hrt
  have HT : Hid ((r.take k).length = k) := htl
  clear hrt htl hr
  go_wp2_with (first
    | (go_at_call 30; refine (rerr_cell rb 0 _ h1.c1).mono ?_; rintro e w2 ⟨rfl, hw⟩; obtain rfl := hw.symm)
    | (refine wpList_slice_to rfl _ _ rfl g o r.length c1 k rfl rfl (by omega) ?_; intro o2 ho2; have hcv : (convert 67 9 (.slice (some ⟨g, o2, none⟩) k c1)).run Tryz.prog w1 = .ok (.string ⟨(r.take k).toArray⟩) w1 := conv_to HR.out.1 HT.out ho2 hcap hl; clear ho2)
    | (refine wpList_slice_from rfl _ _ rfl g o r.length c1 k rfl rfl (by omega) ?_; intro o3 ho3; have HO3 : Hid (k < c1 → o3 = o + k) := ho3; clear ho3))
  go_ret
  have hr3 : w1.rangeAt g o3 (bytesV (r.drop k)) := by
    rcases Nat.lt_or_ge k r.length with x | x
    · rw [HO3.out (by omega)]; exact HR.out.2
    · rw [List.drop_of_length_le x]; exact rangeAt_nil _ _ _
  have hl1 := h1.hl
  obtain ⟨h2, hk2⟩ := h1.stored (t := r.drop k) (c' := c1 - k) (l := r.length - k) (Same.refl w1) hg (by simp) hr3 (by simp; omega) (by simp; omega)
  exact ⟨_, _, rfl, h2, hk1.trans hk2⟩
end Go.Proofs.YteaacodloabdcaaGreatDoor

namespace Go.Proofs.YteaacodloabdcaaGreatDoor
open Go.RowKit Go.Maps

/-- Text. -/
theorem rtext_any {w : World} {rb : Nat} {s : List UInt8} {a : Option Addr} {c : Nat} {err : Int} (h : RdAt w rb s a c err) (most : Int) :
    Calls Tryz.prog 168 #[.pointer (some ⟨rb, 0, none⟩), .int .i64 most] w fun e w' => ∃ a' c', e = .returned (.string ⟨(rdText s err most).1.toArray⟩) ∧ RdAt w' rb (rdText s err most).2.1 a' c' (rdText s err most).2.2 ∧ Keeps (fun i => i = rb) w w' := by
  have H : IntC w rb (rdInt s err).1 (rdInt s err).2.1 (rdInt s err).2.2 := rint_any h
  unfold rdText
  generalize rdInt s err = q at H ⊢
  obtain ⟨n, r, e1⟩ := q
  simp only at H ⊢
  by_cases he : e1 = 0
  · subst he
    rw [if_pos rfl]
    by_cases hb : n < 0 ∨ most < n ∨ (r.length : Int) < n
    · rw [if_pos hb]
      exact rtext_bad n most r H hb
    · rw [if_neg hb]
      obtain ⟨k, rfl⟩ : ∃ k : Nat, n = k := ⟨n.toNat, by omega⟩
      rw [Int.toNat_natCast]
      exact rtext_yes k most r H (by omega) (by omega)
  · rw [if_neg he]
    exact rtext_err n most r e1 H (by simpa using he)

theorem rtext_nil (most : Int) (w : World) : Calls Tryz.prog 168 #[.pointer none, .int .i64 most] w fun e w' => e = .returned (.string ⟨#[]⟩) ∧ w' = w := by
  go_enter Tryz.func168, Tryz.ntmps168
  go_wp2_with (first
    | (go_at_call 57; refine (rint_nil _).mono ?_; rintro e w' ⟨rfl, hw⟩; obtain rfl := hw.symm)
    | (go_at_call 30; refine (rerr_nil _).mono ?_; rintro e w' ⟨rfl, hw⟩; obtain rfl := hw.symm))
  go_ret
  exact ⟨rfl, rfl⟩

theorem clone52' (b o n c : Nat) (s : List UInt8) (w : World) (hs : s.length = n) (hbig : n ≤ 1000000000) (hc : w.rangeAt b o (bytesV s)) :
    Calls Tryz.prog 47 #[.slice (some ⟨b, o, none⟩) n c] w fun e w' => ∃ g cap, e = .returned (.slice (some ⟨g, 0, none⟩) n cap) ∧ w.heap.size ≤ g ∧ w'.rangeAt g 0 (bytesV s) ∧ n ≤ cap ∧ g < w'.heap.size ∧ Below w.heap.size w w' := by
  refine (clone52 b o n c s w hs (by omega) hc).mono ?_
  rintro e w' ⟨v, rfl, hrow, hne, hb⟩
  obtain ⟨hl, ⟨rfl, h0⟩ | ⟨g, cap, cur, rfl, hg, hblk, hnc, hcm, hcs, hcur⟩⟩ := hrow
  · exact absurd rfl hne
  · refine ⟨g, cap, rfl, hg, ?_, hnc, (Array.getElem?_eq_some_iff.1 hblk).1, hb⟩
    intro j v hv
    rw [cell_of_row _ _ (0 + j) cur 5 (0, 0) hblk]
    rw [← hcur, List.getElem?_take] at hv
    split at hv
    · simpa using hv
    · cases hv

/-- NewReader of bytes. -/
theorem newreader_some (b o c : Nat) (s : List UInt8) (w : World) (hbig : s.length ≤ 1000000000) (hr : w.rangeAt b o (bytesV s)) :
    Calls Tryz.prog 20 #[.slice (some ⟨b, o, none⟩) s.length c] w fun e w' => ∃ rb a' c', e = .returned (.pointer (some ⟨rb, 0, none⟩)) ∧ w.heap.size ≤ rb ∧ RdAt w' rb s a' c' 0 ∧ Below w.heap.size w w' := by
  go_enter Tryz.func20, Tryz.ntmps20
  go_wp2_with (go_at_call 47; refine (clone52' b o s.length c s w rfl hbig hr).mono ?_; rintro e w1 ⟨g, cap, rfl, hg, hr1, hcap, hgl, hb1⟩)
  go_ret
  refine ⟨w1.heap.size, some ⟨g, 0, none⟩, cap, rfl, hb1.size, ?_, hb1.alloc hb1.size _⟩
  refine ⟨by simp, by simp, fun o => by simp, ?_, hcap, hbig⟩
  exact Or.inr ⟨g, 0, rfl, by omega, World.rangeAt_alloc hr1 _⟩
theorem newreader_nil (c : Nat) (w : World) :
    Calls Tryz.prog 20 #[.slice none 0 c] w fun e w' => ∃ rb a' c', e = .returned (.pointer (some ⟨rb, 0, none⟩)) ∧ w.heap.size ≤ rb ∧ RdAt w' rb [] a' c' 0 ∧ Below w.heap.size w w' := by
  go_enter Tryz.func20, Tryz.ntmps20
  go_wp2_with (go_at_call 47; refine (clone52_nil 0 c w).mono ?_; rintro e w1 ⟨rfl, hw⟩; obtain rfl := hw.symm)
  go_ret
  refine ⟨w.heap.size, none, 0, rfl, Nat.le_refl _, ?_, (Below.refl _ _).alloc (Nat.le_refl _) _⟩
  exact ⟨by simp, by simp, fun o => by simp, Or.inl ⟨rfl, rfl⟩, by simp, by simp⟩

/-- Bytes: a copy of all that was written; nil of nothing. -/
theorem wbytes_any {w : World} {wb base : Nat} {s : List UInt8} {a : Option Addr} {c : Nat} (h : WrAt w wb base s a c) (hbig : s.length ≤ 1000000000) :
    Calls Tryz.prog 39 #[.pointer (some ⟨wb, 0, none⟩)] w fun e w' => Below w.heap.size w w' ∧ ((e = .returned (.slice none 0 0) ∧ s = []) ∨ ∃ g cap, e = .returned (.slice (some ⟨g, 0, none⟩) s.length cap) ∧ w.heap.size ≤ g ∧ w'.rangeAt g 0 (bytesV s) ∧ s.length ≤ cap ∧ g < w'.heap.size) := by
  have hrow := h.row
  have c0 := h.c0
  obtain ⟨hl, ⟨e, h0⟩ | ⟨g, cap, cur, e, hg, hblk, hnc, hcm, hcs, hcur⟩⟩ := hrow
  · injection e with e1 e2 e3
    subst e1 e3
    have hs : s = [] := List.eq_nil_of_length_eq_zero h0
    subst hs
    go_enter Tryz.func39, Tryz.ntmps39
    go_wp2_with (go_at_call 47; refine (clone52_nil 0 0 w).mono ?_; rintro e w1 ⟨rfl, hw⟩; obtain rfl := hw.symm)
    go_ret
    exact ⟨Below.refl _ _, Or.inl ⟨rfl, trivial⟩⟩
  · injection e with e1 e2 e3
    subst e1 e3
    have hr : w.rangeAt g 0 (bytesV s) := by
      intro j v hv
      rw [cell_of_row _ _ (0 + j) cur 5 (0, 0) hblk]
      rw [← hcur, List.getElem?_take] at hv
      split at hv
      · simpa using hv
      · cases hv
    clear hcur hcs hcm hnc hl
    go_enter Tryz.func39, Tryz.ntmps39
    go_wp2_with (go_at_call 47; refine (clone52' g 0 s.length c s w rfl hbig hr).mono ?_; rintro e w1 ⟨g1, cap1, rfl, hg1, hr1, hcap1, hgl1, hb1⟩)
    go_ret
    exact ⟨hb1, Or.inr ⟨g1, cap1, rfl, hg1, hr1, hcap1, hgl1⟩⟩
theorem wbytes_nil (w : World) : Calls Tryz.prog 39 #[.pointer none] w fun e w' => e = .returned (.slice none 0 0) ∧ w' = w := by
  go_enter Tryz.func39, Tryz.ntmps39
  go_wp2
  go_ret
  exact ⟨rfl, rfl⟩
end Go.Proofs.YteaacodloabdcaaGreatDoor
