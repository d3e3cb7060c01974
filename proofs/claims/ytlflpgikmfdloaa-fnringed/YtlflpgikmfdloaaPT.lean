/- FnRinged: a ring and a list drawn; the lists that are typed out. -/
import Derived.Test.YtlflpgikmfdloaaPS
namespace Go.Proofs.Ytlflpgikmfdloaa
open Go.RowKit

set_option maxHeartbeats 4000000 in
theorem dpush_x {w : World} {a : Option Addr} {len cap : Nat} (hr : Row w a len) (hl : len ≤ 1048576) :
    Calls Try.prog 5 #[.slice a len cap] w fun e w' => ∃ (u v : Value) (o : Int), e = .returned (.tuple #[.agg #[u, .int .i64 o], v]) ∧ Hid ((∃ n ys, n ≤ 61 ∧ 0 ≤ o ∧ Il w' u n ys) ∧ (∃ m xs, m ≤ 513 ∧ Il w' v m xs) ∧ Below w.heap.size w w') := by
  have b1 := below_one w (.cells #[.slice none 0 0, .int .i64 0] 26)
  have R1 := Rg.new w (.slice none 0 0) (.int .i64 0) 26
  have s1 : (w.alloc (.cells #[.slice none 0 0, .int .i64 0] 26)).heap.size = w.heap.size + 1 := by simp
  generalize hW1 : w.alloc (.cells #[.slice none 0 0, .int .i64 0] 26) = W1 at *
  obtain ⟨c, hcd⟩ : ∃ c, W1.heap.size = c := ⟨_, rfl⟩
  have HN : Hid (Calls Try.prog 9 #[.slice a len cap] W1 fun e w' => e = .returned (.pointer (some ⟨c, 0, none⟩)) ∧ Cu w' c a len cap ∧ Below W1.heap.size W1 w') := by have := new_x (cap := cap) (hr.below b1) (by omega); rw [← hcd]; exact this
  have HCD : Hid (c = w.heap.size + 1) := hcd.symm.trans s1
  have BW : Hid (Below w.heap.size w W1) := b1
  have q1 : Hid (Rg W1 w.heap.size (.slice none 0 0) (.int .i64 0)) := R1
  clear hr b1 R1 s1 hcd
  go_enter Try.func5, Try.ntmps5
  go_upto_region 1 with fail
  clear hW1
  go_upto_region 3 with (first
    | (go_at_call 9; refine HN.out.mono ?_; rintro e w1 ⟨rfl, hc, hb⟩; have CU : Hid (Cu w1 c a len cap) := hc; have BW : Hid (Below w.heap.size w w1) := bstep BW.out hb; have q1 : Hid (Rg w1 w.heap.size (.slice none 0 0) (.int .i64 0)) := q1.out.call hb; clear hc hb)
    | (go_at_call 10; refine (dring_x CU.out).mono ?_; rintro e w3 ⟨u, n, ys, o, rfl, hn, ho, hI, hc, hk⟩; have L1 : Hid (c < w1.heap.size) := CU.out.lt; have F3 : Hid (w3.ownsRow w1.heap.size 3 1 u n (ils ys n)) := hI; have KE : Hid (Keep c w1 w3) := hk; have CU : Hid (Cu w3 c a len cap) := hc; have q1 : Hid (Rg w3 w.heap.size (.slice none 0 0) (.int .i64 0)) := q1.out.keep hk (by have := HCD.out; omega); obtain ⟨uo, uc, rfl, huc, hcu⟩ := il_of_own hI; clear hc hk hI hcu)
    | (go_at_call 12; refine (size_x a len cap 30 hl).mono ?_; rintro e w' ⟨z, rfl, hz5, _, hz6, hw⟩; obtain rfl := hw.symm; have hz7 := hz6 (by omega); clear hz6)
    | (go_at_call 11; refine (dany_x CU.out z (by omega)).mono ?_; rintro e w4 ⟨v, m, xs, rfl, hm, hI, hc, hk⟩; have F4 : Hid (w4.ownsRow w1.heap.size 3 1 (.slice uo n uc) n (ils ys n)) := own_keep F3.out hk L1.out; have G4 : Hid (w4.ownsRow w3.heap.size 3 1 v m (ils xs m)) := hI; have K4 : Hid (Keep c w1 w4) := KE.out.trans hk; have q4 : Hid (Rg w4 w.heap.size (.slice none 0 0) (.int .i64 0)) := q1.out.keep hk (by have := HCD.out; omega); have S4 : Hid (w1.heap.size ≤ w3.heap.size) := KE.out.size; obtain ⟨d0, d1, t0, t1⟩ := q4.out; clear hc hk hI))
  have X5 : Hid (Rg ((w4.setCell ⟨w.heap.size, 0, none⟩ (.slice uo n uc)).setCell ⟨w.heap.size, 1, none⟩ (.int .i64 o)) w.heap.size (.slice uo n uc) (.int .i64 o)) := (q4.out.put0 _).put1 _
  have K5 : Hid (Kd (fun k => k = w.heap.size) w4 ((w4.setCell ⟨w.heap.size, 0, none⟩ (.slice uo n uc)).setCell ⟨w.heap.size, 1, none⟩ (.int .i64 o))) := ((Kd.refl (fun k => k = w.heap.size) w4).put (.inl rfl) 0 _).put (.inl rfl) 1 _
  have B5 : Hid (Below w.heap.size w ((w4.setCell ⟨w.heap.size, 0, none⟩ (.slice uo n uc)).setCell ⟨w.heap.size, 1, none⟩ (.int .i64 o))) := ((Below.keep BW.out K4.out (by have := HCD.out; omega)).setCell (p := ⟨w.heap.size, 0, none⟩) (Nat.le_refl _) _).setCell (p := ⟨w.heap.size, 1, none⟩) (Nat.le_refl _) _
  generalize (w4.setCell ⟨w.heap.size, 0, none⟩ (.slice uo n uc)).setCell ⟨w.heap.size, 1, none⟩ (.int .i64 o) = w5 at *
  have c0 := X5.out.c0
  have c1 := X5.out.c1
  have hL : w.heap.size < w1.heap.size := by have := L1.out; have := HCD.out; omega
  refine bodyPost_ret (v := .tuple #[.agg #[.slice uo n uc, .int .i64 o], v]) (by simp [results, Try.results5, go_sem, c0, c1]) rfl ?_
  refine ⟨_, _, _, rfl, ⟨n, ys, hn, ho, il_of_own (own_kd F4.out K5.out (fun k hk hd => ?_))⟩, ⟨m, xs, hm, il_of_own (own_kd G4.out K5.out (fun k hk hd => ?_))⟩, B5.out⟩
  · have h9 := (World.ownsRow.lt F4.out k hk).1
    have e : k = w.heap.size := hd
    omega
  · have h9 := (World.ownsRow.lt G4.out k hk).1
    have e : k = w.heap.size := hd
    have := S4.out
    omega

/-- The lists that are typed out. -/
def l78 (i : Nat) : Int := if i = 0 then 7 else 8

theorem l78_il (w : World) : Il (w.alloc (.cells #[.int .i64 7, .int .i64 8] 3)) (.slice (some ⟨w.heap.size, 0, none⟩) 2 2) 2 l78 := by
  refine ⟨_, _, rfl, Nat.le_refl _, fun _ => ⟨_, _, rfl, by simp, fun k hk => ?_⟩⟩
  match k, hk with
  | 0, _ => simp [l78]
  | 1, _ => simp [l78]

def l123 (i : Nat) : Int := if i = 0 then 1 else if i = 1 then 2 else 3

theorem l123_il (w : World) : Il (w.alloc (.cells #[.int .i64 1, .int .i64 2, .int .i64 3] 3)) (.slice (some ⟨w.heap.size, 0, none⟩) 3 3) 3 l123 := by
  refine ⟨_, _, rfl, Nat.le_refl _, fun _ => ⟨_, _, rfl, by simp, fun k hk => ?_⟩⟩
  match k, hk with
  | 0, _ => simp [l123]
  | 1, _ => simp [l123]
  | 2, _ => simp [l123]

theorem lit_good : GPu 2 3 l78 l123 ((1 : Nat) : Int) := ⟨⟨⟨by decide, fun k hk => by match k, hk with | 0, _ => decide | 1, _ => decide⟩, by decide, by decide⟩, ⟨by decide, fun k hk => by match k, hk with | 0, _ => decide | 1, _ => decide | 2, _ => decide⟩⟩
end Go.Proofs.Ytlflpgikmfdloaa
