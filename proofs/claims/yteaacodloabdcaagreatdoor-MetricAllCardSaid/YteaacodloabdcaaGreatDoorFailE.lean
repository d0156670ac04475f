import Derived.Test.YteaacodloabdcaaGreatDoorFailA
import Derived.Recover
namespace Go.Proofs.YteaacodloabdcaaGreatDoor
open Go.RowKit Go.Extern.Stop Go.Stop Go.Extern

theorem eql31 (a b : Int) (w : World) : (binOp .eql 229 (.iface 45 (.int .i64 a)) (.iface 45 (.int .i64 b))).run Tryz.prog w = .ok (.bool (a == b)) w := by kernel_rfl
theorem eql99_31 (v u : Value) (w : World) : (binOp .eql 229 (.iface 244 v) (.iface 45 u)).run Tryz.prog w = .ok (.bool false) w := by kernel_rfl

set_option maxRecDepth 100000 in
set_option maxHeartbeats 1000000 in
theorem is_chain (n m : Int) (ws : List ByteArray) (v : Value) (w : World) (hc : Chain w n ws v) :
    Calls Tryz.prog 195 #[v, errno m, .bool true] w fun ev w' => ev = .returned (.bool (n == m)) ∧ w' = w := by
  have f2 := eql31
  have f3 := eql99_31
  have f4 := noIs31
  have f5 := noIs99
  have f7 := mUnwrap
  have f8 := noUn31
  have f9 := hasUn99
  have f10 := noUns31
  go_enter Tryz.func195, Tryz.ntmps195
  go_wp2
  go_loopg [0] ws.length (fun k p wr => w = wr ∧ ∃ r : List ByteArray, r.length = k ∧ Chain wr n r p)
  case atStart => exact ⟨rfl, ws, rfl, hc⟩
  case round =>
    obtain ⟨rfl, r, hrl, hcr⟩ := hrel
    cases r with
    | nil =>
      have hcr' : _ = errno n := hcr
      subst hcr'
      by_cases hnm : n = m
      · have hb : (n == m) = true := by simpa using hnm
        clear hnm
        go_wp2
        go_ret
        exact ⟨by rw [hb]; rfl, rfl⟩
      · have hb : (n == m) = false := by simpa using hnm
        clear hnm
        go_wp2
        go_ret
        exact ⟨by rw [hb]; rfl, rfl⟩
    | cons s r' =>
      obtain ⟨b, u, rfl, d0, d1, d2⟩ := hcr
      obtain ⟨T, x, rfl⟩ := d2.shape
      have A : Aside (r'.length + 1 = gk ∧ Chain w n r' (.iface T x)) := ⟨hrl, d2⟩
      clear hrl d2
      go_wp2
      go_roundg r'.length
      case measure => obtain ⟨a1, a2⟩ := A.out; omega
      case rel => exact ⟨rfl, r', rfl, A.out.2⟩

set_option maxRecDepth 100000 in
set_option maxHeartbeats 1000000 in
theorem Is_chain (n m : Int) (ws : List ByteArray) (T : TypeId) (x : Value) (w : World) (hc : Chain w n ws (.iface T x)) :
    Calls Tryz.prog 188 #[.iface T x, errno m] w fun ev w' => ev = .returned (.bool (n == m)) ∧ w' = w := by
  have h68 := @run_callFunc_extern Tryz.prog 194 _ ReflectliteType.typeOf Tryz.func194 (by kernel_rfl) (by kernel_rfl) (by kernel_rfl) (by kernel_rfl)
  have f1 := typeOf31
  have f2 := comp31
  have f3 := mComp
  have HK : Hid (Calls Tryz.prog 195 _ _ _) := is_chain n m ws (.iface T x) w hc
  clear hc
  go_enter Tryz.func188, Tryz.ntmps188
  go_wp2_with (go_at_call 195; refine HK.out.mono ?_; rintro e w' ⟨rfl, rfl⟩)
  go_ret
  exact ⟨rfl, rfl⟩
theorem eqlnil_31 (v : Value) (w : World) : (binOp .eql 229 .nilIface (.iface 45 v)).run Tryz.prog w = .ok (.bool false) w := by kernel_rfl
theorem Is_nil (m : Int) (w : World) : Calls Tryz.prog 188 #[.nilIface, errno m] w fun ev w' => ev = .returned (.bool false) ∧ w' = w := by
  have f := eqlnil_31
  go_enter Tryz.func188, Tryz.ntmps188
  go_wp2
  go_ret
  exact ⟨rfl, rfl⟩
end Go.Proofs.YteaacodloabdcaaGreatDoor

namespace Go.Proofs.YteaacodloabdcaaGreatDoor
open Go.RowKit Go.Extern.Stop Go.Stop Go.Extern

/-- The deferred functions, where nothing panics: they change nothing. -/
theorem code_idle (p : Addr) (w : World) :
    CallsD Tryz.prog 185 #[.pointer (some p)] .returning w fun e u' w' => e = .returned (.tuple #[]) ∧ u' = .returning ∧ w' = w := by
  refine callsD_of_wpS Tryz.func185 rfl fun c₀ cs hu => ?_
  apply wpS_seq
  apply wpS_region
  simp [wpOpsS, go_sem, recoverD, hu, Tryz.ntmps185, Exit.thenS]
  refine wpS_cond (t := false) (by simp [Act.eval, Array.replicate]) ?_
  simp only [Bool.false_eq_true, if_false]
  refine wpS_of_wp (wp_skip ?_)
  cases c₀
  simp_all [bodyPostS, results, Tryz.results185]
theorem is_idle (p : Addr) (w : World) :
    CallsD Tryz.prog 187 #[.pointer (some p)] .returning w fun e u' w' => e = .returned (.tuple #[]) ∧ u' = .returning ∧ w' = w := by
  refine callsD_of_wpS Tryz.func187 rfl fun c₀ cs hu => ?_
  apply wpS_seq
  apply wpS_region
  simp [wpOpsS, go_sem, recoverD, hu, Tryz.ntmps187, Exit.thenS]
  refine wpS_cond (t := false) (by simp [Act.eval, Array.replicate]) ?_
  simp only [Bool.false_eq_true, if_false]
  refine wpS_of_wp (wp_skip ?_)
  cases c₀
  simp_all [bodyPostS, results, Tryz.results187]

set_option maxRecDepth 100000 in
set_option maxHeartbeats 1000000 in
theorem code_chain (n : Int) (ws : List ByteArray) (T : TypeId) (x : Value) (w : World) (hc : Chain w n ws (.iface T x)) (hg : w.cell? ⟨0, 0, none⟩ = some errType) :
    Calls Tryz.prog 170 #[.iface T x] w fun ev w' => ev = .returned (.int .i64 n) ∧ Below w.heap.size w w' := by
  have hmf : ∀ (fn : Fn) (first cap : Array Value) (w : World), (Instr.makeFunc fn first cap).run Tryz.prog w = .ok (.func fn first cap) w := fun _ _ _ _ => rfl
  have hlt : 0 < w.heap.size := World.block_lt_of_cell? w _ hg
  have hch : Chain (w.alloc (.cells #[.int .i64 0] 45)) n ws (.iface T x) := Chain.keeps ((Keeps.refl (fun _ => False) w).alloc _) (fun _ _ e => e) hc
  have hg1 : (w.alloc (.cells #[.int .i64 0] 45)).cell? ⟨0, 0, none⟩ = some errType := by rw [World.cell?_alloc_lt _ _ ⟨0, 0, none⟩ hlt]; exact hg
  have HK : Hid (Calls Tryz.prog 186 _ _ _) := As_chain n 0 ⟨w.heap.size, 0, none⟩ ws T x (w.alloc (.cells #[.int .i64 0] 45)) hch (by simp) (by simp) hg1
  clear hch hc hg1 hg
  go_enter_defers Tryz.func170, Tryz.ntmps170
  go_wp2_with (go_at_call 186; refine HK.out.mono ?_; rintro e w1 ⟨rfl, hk1, hc1, hf1⟩)
  refine leaves_cons (f := 185) (args := #[.pointer (some ⟨w.heap.size, 0, none⟩)]) (by simp) (by simp [go_sem]) ?_
  refine (code_idle ⟨w.heap.size, 0, none⟩ _).mono ?_
  rintro e u' w'' ⟨rfl, rfl, rfl⟩
  have hB : Below w.heap.size w (w1.setCell ⟨w.heap.size, 0, none⟩ (.int .i64 n)) :=
    (((Below.refl _ w).alloc (Nat.le_refl _) _).trans (hk1.below (B := w.heap.size) (by simp) (fun i e => by omega))).setCell (by simp) _
  have hres : (w1.setCell ⟨w.heap.size, 0, none⟩ (.int .i64 n)).cell? ⟨w.heap.size, 0, none⟩ = some (.int .i64 n) := World.cell?_setCell_same _ _ _ hc1
  simp [Leaves, settle, results, Tryz.results170, go_sem, hres, hB]

theorem code_nil (w : World) : Calls Tryz.prog 170 #[.nilIface] w fun ev w' => ev = .returned (.int .i64 0) ∧ Below w.heap.size w w' := by
  have hmf : ∀ (fn : Fn) (first cap : Array Value) (w : World), (Instr.makeFunc fn first cap).run Tryz.prog w = .ok (.func fn first cap) w := fun _ _ _ _ => rfl
  go_enter_defers Tryz.func170, Tryz.ntmps170
  go_wp2
  have hB : Below w.heap.size w (w.alloc (.cells #[.int .i64 0] 45)) := (Below.refl _ w).alloc (Nat.le_refl _) _
  simp [bodyPostD, Leaves, results, Tryz.results170, go_sem, hB]

set_option maxRecDepth 100000 in
set_option maxHeartbeats 1000000 in
theorem fis_chain (n m : Int) (ws : List ByteArray) (T : TypeId) (x : Value) (w : World) (hc : Chain w n ws (.iface T x)) (hm : (m == 0) = false) :
    Calls Tryz.prog 172 #[.iface T x, .int .i64 m] w fun ev w' => ev = .returned (.bool (n == m)) ∧ Below w.heap.size w w' := by
  have hmf : ∀ (fn : Fn) (first cap : Array Value) (w : World), (Instr.makeFunc fn first cap).run Tryz.prog w = .ok (.func fn first cap) w := fun _ _ _ _ => rfl
  have hch : Chain (w.alloc (.cells #[.bool false] 4)) n ws (.iface T x) := Chain.keeps ((Keeps.refl (fun _ => False) w).alloc _) (fun _ _ e => e) hc
  have HK : Hid (Calls Tryz.prog 188 _ _ _) := Is_chain n m ws T x (w.alloc (.cells #[.bool false] 4)) hch
  clear hch hc
  go_enter_defers Tryz.func172, Tryz.ntmps172
  go_wp2_with (go_at_call 188; refine HK.out.mono ?_; rintro e w1 ⟨rfl, rfl⟩)
  refine leaves_cons (f := 187) (args := #[.pointer (some ⟨w.heap.size, 0, none⟩)]) (by simp) (by simp [go_sem]) ?_
  refine (is_idle ⟨w.heap.size, 0, none⟩ _).mono ?_
  rintro e u' w'' ⟨rfl, rfl, rfl⟩
  have hB : Below w.heap.size w (w.alloc (.cells #[.bool (n == m)] 4)) := (Below.refl _ w).alloc (Nat.le_refl _) _
  simp [Leaves, settle, results, Tryz.results172, go_sem, hB]

theorem fis_ok (T : TypeId) (x : Value) (w : World) : Calls Tryz.prog 172 #[.iface T x, .int .i64 0] w fun ev w' => ev = .returned (.bool false) ∧ Below w.heap.size w w' := by
  have hmf : ∀ (fn : Fn) (first cap : Array Value) (w : World), (Instr.makeFunc fn first cap).run Tryz.prog w = .ok (.func fn first cap) w := fun _ _ _ _ => rfl
  go_enter_defers Tryz.func172, Tryz.ntmps172
  go_wp2
  have hB : Below w.heap.size w (w.alloc (.cells #[.bool false] 4)) := (Below.refl _ w).alloc (Nat.le_refl _) _
  simp [bodyPostD, Leaves, results, Tryz.results172, go_sem, hB]
theorem fis_nil (w : World) : Calls Tryz.prog 172 #[.nilIface, .int .i64 0] w fun ev w' => ev = .returned (.bool true) ∧ Below w.heap.size w w' := by
  have hmf : ∀ (fn : Fn) (first cap : Array Value) (w : World), (Instr.makeFunc fn first cap).run Tryz.prog w = .ok (.func fn first cap) w := fun _ _ _ _ => rfl
  go_enter_defers Tryz.func172, Tryz.ntmps172
  go_wp2
  have hB : Below w.heap.size w (w.alloc (.cells #[.bool true] 4)) := (Below.refl _ w).alloc (Nat.le_refl _) _
  simp [bodyPostD, Leaves, results, Tryz.results172, go_sem, hB]
end Go.Proofs.YteaacodloabdcaaGreatDoor

namespace Go.Proofs.YteaacodloabdcaaGreatDoor
open Go.RowKit

theorem info9 : (Tryz.prog.info? 9).map (fun i => (i.zero, i.size, i.bytes)) = some (some (.string ⟨#[]⟩), 1, 16) := by kernel_rfl
theorem strs_one (l : List ByteArray) : ∀ u ∈ l.map Value.string, u.oneCell' = true := by
  intro u hu
  obtain ⟨s, _, rfl⟩ := List.mem_map.1 hu
  rfl

set_option maxRecDepth 100000 in
set_option maxHeartbeats 1000000 in
theorem where_chain (n : Int) (ws : List ByteArray) (v : Value) (w : World) (hc : Chain w n ws v) (hl : ws.length ≤ 1000000) :
    Calls Tryz.prog 171 #[v] w fun ev w' => ∃ v', ev = .returned v' ∧ w'.ownsRow w.heap.size 9 1 v' ws.length (ws.map Value.string) ∧ Below w.heap.size w w' := by
  obtain ⟨i0, hi, hz0, hz1, hz2⟩ := info_parts info9
  have f1 := ta99_99
  have f2 := ta31_99
  go_enter Tryz.func171, Tryz.ntmps171
  go_wp2
  go_loopg [0, 3] ws.length (fun k p al wr => ∃ done r : List ByteArray, ws = done ++ r ∧ r.length = k ∧ Chain wr n r p ∧ wr.ownsRow w.heap.size 9 1 al done.length (done.map Value.string) ∧ Below w.heap.size w wr ∧ Chain w n r p)
  case atStart => exact ⟨[], ws, rfl, rfl, hc, World.ownsRow_nil w _ _ _, Below.refl _ _, hc⟩
  case round =>
    obtain ⟨done, r, hws, hrl, hcr, hrow, hb, hcw⟩ := hrel
    cases r with
    | nil =>
      have hcr' : _ = errno n := hcr
      subst hcr'
      go_wp2
      go_ret
      rw [List.append_nil] at hws
      subst hws
      exact ⟨_, rfl, hrow, hb⟩
    | cons s r' =>
      obtain ⟨b, u, rfl, d0, d1, d2⟩ := hcr
      obtain ⟨b', u', e', d0', d1', d2'⟩ := hcw
      have hbb : b' = b := by injection e' with _ e2; injection e2 with e3; injection e3 with e4; injection e4 with e5; exact e5.symm
      subst hbb
      have hbl := World.block_lt_of_cell? w _ d0'
      have huu : u' = u := by
        have := (hb.cell (p := ⟨b', 1, none⟩) hbl).symm.trans d1
        rw [d1'] at this; exact Option.some.inj this
      subst huu
      have hdl : done.length ≤ 1000000 := by have := congrArg List.length hws; simp at this; omega
      have hbs := hb.size
      have A : Aside (ws = done ++ s :: r' ∧ r'.length + 1 = gk ∧ Chain w n r' u' ∧ Chain wr n r' u') := ⟨hws, hrl, d2', d2⟩
      clear hws hrl d2 d2' e'
      go_wp2_with (at_builtin; refine wpList_append_own _ rfl _ _ 233 rfl w.heap.size 9 i0 (.string ⟨#[]⟩) 1 16 Tryz.underlying233 hi hz0 hz1 hz2 rfl (by decide) _ done.length _ rfl (hrow.alloc _) ⟨wr.heap.size, 0, none⟩ 1 1 [.string s] rfl rfl (cell_one_new _ _ _) ?q1 ?q2 ?q3 ?q4 ?_)
      case q1 => rfl
      case q2 => unfold maxLen; omega
      case q3 => omega
      case q4 => omega
      intro v1 w1 hown1 hg1 hnil1
      have hb1 : Below w.heap.size w w1 := by
        refine (hb.alloc hbs _).grown hg1 (by simp; omega) (fun k e => ?_)
        obtain ⟨_, ⟨e1, _⟩ | ⟨g', cap, cur, e1, r1, _⟩⟩ := hrow
        · rw [e1] at e; cases e
        · rw [e1] at e; cases e; exact r1
      have hch : Chain w1 n r' u' := by
        have := A.out.2.2.1
        exact Chain.keeps (Keeps.of_below (S := fun _ => False) hb1) (fun _ _ e => e) this
      have d11 : w1.cell? ⟨b', 1, none⟩ = some u' := (hb1.cell (p := ⟨b', 1, none⟩) hbl).trans d1'
      have AR : Aside (w1.ownsRow w.heap.size 9 1 v1 (done ++ [s]).length ((done ++ [s]).map Value.string)) := by
        show w1.ownsRow w.heap.size 9 1 v1 (done ++ [s]).length ((done ++ [s]).map Value.string)
        rw [List.length_append, List.map_append]; exact hown1
      have AC : Aside (Chain w1 n r' u') := hch
      clear hown1 hch d0 d1 hrow hnil1 hg1
      go_wp2
      go_roundg r'.length
      case measure => obtain ⟨a1, a2, a3⟩ := A.out; omega
      case rel => exact ⟨done ++ [s], r', by rw [A.out.1]; simp, rfl, AC.out, AR.out, hb1, A.out.2.2.1⟩
end Go.Proofs.YteaacodloabdcaaGreatDoor
