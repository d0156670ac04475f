import Derived.Test.YtmdjjnjhjojimaaDoorFailC
namespace Go.Proofs.YtmdjjnjhjojimaaDoor
open Go.RowKit Go.Extern.Stop Go.Stop Go.Extern

theorem eql31 (a b : Int) (w : World) : (binOp .eql 71 (.iface 31 (.int .i64 a)) (.iface 31 (.int .i64 b))).run Tryd.prog w = .ok (.bool (a == b)) w := by kernel_rfl
theorem eql99_31 (v u : Value) (w : World) : (binOp .eql 71 (.iface 99 v) (.iface 31 u)).run Tryd.prog w = .ok (.bool false) w := by kernel_rfl

set_option maxRecDepth 100000 in
set_option maxHeartbeats 1000000 in
theorem is_chain (n m : Int) (ws : List ByteArray) (v : Value) (w : World) (hc : Chain w n ws v) :
    Calls Tryd.prog 69 #[v, errno m, .bool true] w fun ev w' => ev = .returned (.bool (n == m)) ∧ w' = w := by
  have f2 := eql31
  have f3 := eql99_31
  have f4 := noIs31
  have f5 := noIs99
  have f7 := mUnwrap
  have f8 := noUn31
  have f9 := hasUn99
  have f10 := noUns31
  go_enter Tryd.func69, Tryd.ntmps69
  go_wp2
  go_loopg [0] ws.length (fun k p wr => w = wr ∧ ∃ r : List ByteArray, r.length = k ∧ Chain wr n r p)
  case atStart => exact ⟨rfl, ws, rfl, hc⟩
  case round =>
    obtain ⟨rfl, r, hrl, hcr⟩ := hrel
    cases r with
    | nil =>
      have hcr' : _ = errno n := hcr
      subst hcr'
      by_cases hnm : n = m
      · have hb : (n == m) = true := by simpa using hnm
        clear hnm
        go_wp2
        go_ret
        exact ⟨by rw [hb]; rfl, rfl⟩
      · have hb : (n == m) = false := by simpa using hnm
        clear hnm
        go_wp2
        go_ret
        exact ⟨by rw [hb]; rfl, rfl⟩
    | cons s r' =>
      obtain ⟨b, u, rfl, d0, d1, d2⟩ := hcr
      obtain ⟨T, x, rfl⟩ := d2.shape
      have A : Aside (r'.length + 1 = gk ∧ Chain w n r' (.iface T x)) := ⟨hrl, d2⟩
      clear hrl d2
      go_wp2
      go_roundg r'.length
      case measure => obtain ⟨a1, a2⟩ := A.out; omega
      case rel => exact ⟨rfl, r', rfl, A.out.2⟩

set_option maxRecDepth 100000 in
set_option maxHeartbeats 1000000 in
theorem Is_chain (n m : Int) (ws : List ByteArray) (T : TypeId) (x : Value) (w : World) (hc : Chain w n ws (.iface T x)) :
    Calls Tryd.prog 58 #[.iface T x, errno m] w fun ev w' => ev = .returned (.bool (n == m)) ∧ w' = w := by
  have h68 := @run_callFunc_extern Tryd.prog 68 _ ReflectliteType.typeOf Tryd.func68 (by kernel_rfl) (by kernel_rfl) (by kernel_rfl) (by kernel_rfl)
  have f1 := typeOf31
  have f2 := comp31
  have f3 := mComp
  have HK : Hid (Calls Tryd.prog 69 _ _ _) := is_chain n m ws (.iface T x) w hc
  clear hc
  go_enter Tryd.func58, Tryd.ntmps58
  go_wp2_with (go_at_call 69; refine HK.out.mono ?_; rintro e w' ⟨rfl, rfl⟩)
  go_ret
  exact ⟨rfl, rfl⟩
theorem eqlnil_31 (v : Value) (w : World) : (binOp .eql 71 .nilIface (.iface 31 v)).run Tryd.prog w = .ok (.bool false) w := by kernel_rfl
theorem Is_nil (m : Int) (w : World) : Calls Tryd.prog 58 #[.nilIface, errno m] w fun ev w' => ev = .returned (.bool false) ∧ w' = w := by
  have f := eqlnil_31
  go_enter Tryd.func58, Tryd.ntmps58
  go_wp2
  go_ret
  exact ⟨rfl, rfl⟩
end Go.Proofs.YtmdjjnjhjojimaaDoor
