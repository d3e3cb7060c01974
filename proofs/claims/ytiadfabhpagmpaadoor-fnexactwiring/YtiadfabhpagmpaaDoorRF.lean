/- Marks of texts. -/
import Derived.Test.YtiadfabhpagmpaaDoorPM
import Derived.WalkKit
import Derived.WalkSpells
import Derived.WalkLawsBesides
import Derived.Deep.QuietTactic
import Derived.BigQuiet
import Derived.BigRegion
import Derived.Deep.Cut
import Derived.Laws.IdiomStrings
import Derived.Laws.Concat
namespace Go.Proofs.YtiadfabhpagmpaaDoor
open Go.RowKit

set_option maxRecDepth 20000 in
set_option maxHeartbeats 4000000 in
theorem markText_any (K : Int) (hK : 0 ≤ K ∧ K ≤ 1099511627776) (w : World) : Calls Tryd.prog 44 #[.int .i64 K] w fun e w' => ∃ x : ByteArray, e = .returned (.string x) ∧ Below w.heap.size w w' := by
  by_cases h : K ≤ 0
  · go_enter Tryd.func44, Tryd.ntmps44
    go_wp2
    go_ret
    exact ⟨_, rfl, Below.refl _ _⟩
  go_enter Tryd.func44, Tryd.ntmps44
  go_upto_region 4 with fail
  go_loopw [0, 3] (fun i l wr => ∃ (k : Int) (x : ByteArray), i = .int .i64 k ∧ 0 ≤ k ∧ k ≤ K ∧ l = .string x ∧ Hid ((x.size : Int) + k ≤ K) ∧ Hid (Below w.heap.size w wr)) (fun i _ _ => (intOf i).toNat)
  case atStart => exact ⟨K, _, rfl, by omega, by omega, rfl, by show ((0 : Nat) : Int) + K ≤ K; omega, Below.refl _ _⟩
  case round =>
    obtain ⟨k, x, rfl, hk0, hk1, rfl, hx, hb⟩ := hrel
    by_cases h1 : 0 < k
    · have hx2 := hx.out
      have ks : x.size + 1 ≤ 9223372036854775807 := by omega
      obtain ⟨d, hd⟩ : ∃ d : Nat, 48 + k % 10 = (d : Int) := ⟨(48 + k % 10).toNat, by omega⟩
      have hd2 : d < 256 := by omega
      have kc : ∀ W : World, (convert 88 9 (.slice (some ⟨W.heap.size, 0, none⟩) 1 1)).run Tryd.prog (W.alloc (.cells #[.int .u8 (48 + k % 10)] 5)) = .ok (.string ⟨#[UInt8.ofNat d]⟩) (W.alloc (.cells #[.int .u8 (48 + k % 10)] 5)) := fun W => by
        exact run_convert_bytes_back (W.alloc (.cells #[.int .u8 (48 + k % 10)] 5)) 88 9 5 ⟨W.heap.size, 0, none⟩ 1 [UInt8.ofNat d] Tryd.underlying88 Tryd.underlying5 Tryd.underlying9 (fun j hj => by
          obtain rfl : j = 0 := by simpa using hj
          rw [hd]
          simp [Addr.add]
          omega)
      have ksum : ∀ W : World, (Op.stringOp .add ⟨#[UInt8.ofNat d]⟩ x).run Tryd.prog W = .ok (.string (⟨#[UInt8.ofNat d]⟩ ++ x)) W := fun W => run_string_add_sum W _ x (by show 1 + x.size ≤ _; omega)
      clear hx2 hd
      have HX : Hid ((((⟨#[UInt8.ofNat d]⟩ ++ x : ByteArray).size : Nat) : Int) + k / 10 ≤ K) := by
        show _ ≤ _
        rw [ByteArray.size_append]
        have := hx.out
        show ((1 + x.size : Nat) : Int) + k / 10 ≤ K
        omega
      have HB : Hid (Below w.heap.size w (wr.alloc (.cells #[.int .u8 (48 + k % 10)] 5))) := bstep hb.out (below_one _ _)
      go_wp2
      go_roundw
      case rel => exact ⟨k / 10, _, by go_num, by omega, by omega, rfl, HX.out, HB.out⟩
      case measure => simp [intOf]; omega
    · have hx2 := hx.out
      have ksum : ∀ W : World, (Op.stringOp .add ⟨#[109]⟩ x).run Tryd.prog W = .ok (.string (⟨#[109]⟩ ++ x)) W := fun W => run_string_add_sum W _ x (by show 1 + x.size ≤ _; omega)
      clear hx2
      go_wp2
      go_ret
      exact ⟨⟨_, rfl⟩, hb.out⟩
theorem gb_refl (w : World) (r : Option Nat) : w.grownBy w r := ⟨rfl, rfl, rfl, Nat.le_refl _, fun _ _ _ => rfl⟩
theorem gb_trans {a b c : World} {r : Option Nat} (h : a.grownBy b r) (k : b.grownBy c r) : a.grownBy c r := ⟨k.os.trans h.os, k.tape.trans h.tape, k.output.trans h.output, Nat.le_trans h.size k.size, fun i hi hr => (k.block i (Nat.lt_of_lt_of_le hi h.size) hr).trans (h.block i hi hr)⟩
theorem gb_below {w w' : World} (h : Below w.heap.size w w') (r : Option Nat) : w.grownBy w' r := ⟨h.os, h.tape, h.output, h.size, fun i hi _ => h.block i hi⟩

set_option maxHeartbeats 8000000 in
theorem markNodes_any {w : World} {B g n cap : Nat} {f : Nat → Value} {K : Int} (ho : w.ownsRow B 47 3 (.slice (some ⟨g, 0, none⟩) n cap) n (vls f (n * 3))) (hn : n ≤ 1048576) (hK : 0 ≤ K ∧ K ≤ 1073741824) :
    Calls Tryd.prog 31 #[.slice (some ⟨g, 0, none⟩) n cap, .int .i64 K] w fun e w' => e = .returned (.int .i64 (K + 3 * (n : Int))) ∧ w.grownBy w' (some g) := by
  have HO : Hid (w.ownsRow B 47 3 (.slice (some ⟨g, 0, none⟩) n cap) n (vls f (n * 3))) := ho
  clear ho
  go_enter Tryd.func31, Tryd.ntmps31
  go_wp2
  go_loopw [1, 5] (fun kk i wr => ∃ q : Nat, i = .int .i64 q ∧ kk = .int .i64 (K + 3 * (q : Int)) ∧ q ≤ n ∧ Hid ((∃ f', wr.ownsRow B 47 3 (.slice (some ⟨g, 0, none⟩) n cap) n (vls f' (n * 3))) ∧ w.grownBy wr (some g))) (fun _ i _ => n - (intOf i).toNat)
  case atStart => exact ⟨0, rfl, by simp, by omega, ⟨f, HO.out⟩, gb_refl _ _⟩
  case round =>
    obtain ⟨q, rfl, rfl, hq, hrel⟩ := hrel
    obtain ⟨⟨f', hf⟩, hon⟩ := hrel.out
    by_cases h1 : q < n
    · have im := markText_any (K + 3 * (q : Int)) ⟨by omega, by omega⟩ wr
      have HF : Hid (wr.ownsRow B 47 3 (.slice (some ⟨g, 0, none⟩) n cap) n (vls f' (n * 3))) := hf
      have ON : Hid (w.grownBy wr (some g)) := hon
      clear hf hon hrel
      go_upto_region 3 with (go_at_call 44; (with_reducible refine im.mono ?_); rintro e w5 ⟨x, rfl, hb5⟩; have hf := own_below HF.out hb5; have O5 : Hid (w.grownBy w5 (some g)) := gb_trans ON.out (gb_below hb5 _); have d0 := (World.ownsRow.cellAt hf (q * 3) (by omega)).trans (vls_get (by omega)); have d1 := (World.ownsRow.cellAt hf (q * 3 + 1) (by omega)).trans (vls_get (by omega)); have d2 := (World.ownsRow.cellAt hf (q * 3 + 2) (by omega)).trans (vls_get (by omega)); have z0 := World.ownsRow.frozenAt hf (q * 3); have z1 := World.ownsRow.frozenAt hf (q * 3 + 1); have z2 := World.ownsRow.frozenAt hf (q * 3 + 2); have HF5 : Hid (w5.ownsRow B 47 3 (.slice (some ⟨g, 0, none⟩) n cap) n (vls f' (n * 3))) := hf; clear hf hb5)
      have s0 := World.ownsRow.stored HF5.out (q * 3) (.string x)
      have s1 := World.ownsRow.stored s0.1 (q * 3 + 1) (.int .i64 (K + 3 * (q : Int) + 1))
      have s2 := World.ownsRow.stored s1.1 (q * 3 + 2) (.int .i64 (K + 3 * (q : Int) + 1 + 1))
      have OP := s2.1
      rw [vls_put, vls_put, vls_put] at OP
      have OP : Hid _ := OP
      have OG : Hid _ := gb_trans O5.out (gb_trans s0.2 (gb_trans s1.2 s2.2))
      clear s0 s1 s2
      go_wp2
      go_roundw
      case rel => exact ⟨q + 1, by go_num, by first | go_num | (congr 1; omega), by omega, ⟨_, OP.out⟩, OG.out⟩
      case measure => simp [intOf]; omega
    · obtain rfl : q = n := by omega
      have ON : Hid _ := hon
      clear hf hon hrel
      go_wp2
      go_ret
      exact ⟨rfl, ON.out⟩

set_option maxHeartbeats 4000000 in
theorem markLinks_any {w : World} {B g n cap : Nat} {f : Nat → Value} {K : Int} (ho : w.ownsRow B 50 2 (.slice (some ⟨g, 0, none⟩) n cap) n (vls f (n * 2))) (hn : n ≤ 1048576) (hK : 0 ≤ K ∧ K ≤ 1073741824) :
    Calls Tryd.prog 32 #[.slice (some ⟨g, 0, none⟩) n cap, .int .i64 K] w fun e w' => e = .returned (.int .i64 (K + 2 * (n : Int))) ∧ w.grownBy w' (some g) := by
  have HO : Hid (w.ownsRow B 50 2 (.slice (some ⟨g, 0, none⟩) n cap) n (vls f (n * 2))) := ho
  clear ho
  go_enter Tryd.func32, Tryd.ntmps32
  go_wp2
  go_loopw [1, 5] (fun kk i wr => ∃ q : Nat, i = .int .i64 q ∧ kk = .int .i64 (K + 2 * (q : Int)) ∧ q ≤ n ∧ Hid ((∃ f', wr.ownsRow B 50 2 (.slice (some ⟨g, 0, none⟩) n cap) n (vls f' (n * 2))) ∧ w.grownBy wr (some g))) (fun _ i _ => n - (intOf i).toNat)
  case atStart => exact ⟨0, rfl, by simp, by omega, ⟨f, HO.out⟩, gb_refl _ _⟩
  case round =>
    obtain ⟨q, rfl, rfl, hq, hrel⟩ := hrel
    obtain ⟨⟨f', hf⟩, hon⟩ := hrel.out
    by_cases h1 : q < n
    · have d0 := (World.ownsRow.cellAt hf (q * 2) (by omega)).trans (vls_get (by omega))
      have d1 := (World.ownsRow.cellAt hf (q * 2 + 1) (by omega)).trans (vls_get (by omega))
      have z0 := World.ownsRow.frozenAt hf (q * 2)
      have z1 := World.ownsRow.frozenAt hf (q * 2 + 1)
      have s0 := World.ownsRow.stored hf (q * 2) (.int .i64 (K + 2 * (q : Int)))
      have s1 := World.ownsRow.stored s0.1 (q * 2 + 1) (.int .i64 (K + 2 * (q : Int) + 1))
      have OP := s1.1
      rw [vls_put, vls_put] at OP
      have OP : Hid _ := OP
      have OG : Hid _ := gb_trans hon (gb_trans s0.2 s1.2)
      clear s0 s1 hf hon hrel
      go_wp2
      go_roundw
      case rel => exact ⟨q + 1, by go_num, by first | go_num | (congr 1; omega), by omega, ⟨_, OP.out⟩, OG.out⟩
      case measure => simp [intOf]; omega
    · obtain rfl : q = n := by omega
      have ON : Hid _ := hon
      clear hf hon hrel
      go_wp2
      go_ret
      exact ⟨rfl, ON.out⟩

end Go.Proofs.YtiadfabhpagmpaaDoor
