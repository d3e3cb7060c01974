/- SCH SCA SCB SCC SCD SCE SC. -/
import Derived.Test.YtpjpkkgcnnmljaaSB
import Derived.Test.YtpjpkkgcnnmljaaPV
import Derived.Test.YtpjpkkgcnnmljaaWW
import Derived.Test.YtpjpkkgcnnmljaaST
import Derived.Test.YtpjpkkgcnnmljaaMR
namespace Go.Proofs.Ytpjpkkgcnnmljaa
open Go.RowKit

theorem own_slicei {w : World} {B n : Nat} {v : Value} {L : List Value} (h : w.ownsRow B 3 1 v n L) : ∃ a c, v = .slice a n c := by
  rcases h.2 with ⟨rfl, rfl⟩ | ⟨g, cap, cur, rfl, _⟩
  · exact ⟨none, 0, rfl⟩
  · exact ⟨_, _, rfl⟩
theorem own_slicep {w : World} {B n : Nat} {v : Value} {L : List Value} (h : w.ownsRow B 47 2 v n L) : ∃ a c, v = .slice a n c := by
  rcases h.2 with ⟨rfl, rfl⟩ | ⟨g, cap, cur, rfl, _⟩
  · exact ⟨none, 0, rfl⟩
  · exact ⟨_, _, rfl⟩
end Go.Proofs.Ytpjpkkgcnnmljaa

namespace Go.Proofs.Ytpjpkkgcnnmljaa
open Go.RowKit

set_option maxRecDepth 20000 in
set_option maxHeartbeats 8000000 in
theorem stg_code {w : World} {p : Nat} {wi ro se ra si : Int} {t : Nat} {bv iv pv : Value} {n : Nat} {y : Nat → Int} (h : Pas w p wi (t : Int) ro se ra si bv iv pv) (hb : Bl w bv n y) (hy : Byt n y) (hc : Cod n (t : Int)) :
    Calls Try.prog 23 #[.pointer (some ⟨p, 0, none⟩)] w fun e w' => e = .returned (.bool true) ∧ ∃ u, Pas w' p wi (t : Int) ro se ra si u iv pv ∧ w'.ownsRow w.heap.size 5 1 u (n + 2 * t) (bls (fun q => ((cwd (2 * t) n (nb n y) q : Nat) : Int)) (n + 2 * t)) ∧ Kp p w w' := by
  have hp := h.lt
  have H : Hid (Pas w p wi (t : Int) ro se ra si bv iv pv) := h
  have f0 : w.drew.cell? ⟨p, 0, none⟩ = _ := h.c0
  have f1 : w.drew.cell? ⟨p, 1, none⟩ = _ := h.c1
  have f2 : w.drew.cell? ⟨p, 2, none⟩ = _ := h.c2
  have f3 : w.drew.cell? ⟨p, 3, none⟩ = _ := h.c3
  have f7 : w.drew.cell? ⟨p, 7, none⟩ = _ := h.c7
  have f8 : w.drew.cell? ⟨p, 8, none⟩ = _ := h.c8
  have f9 : w.drew.cell? ⟨p, 9, none⟩ = _ := h.c9
  obtain ⟨N, hN⟩ : ∃ N, N = n + 2 * t := ⟨_, rfl⟩
  obtain ⟨ys, hys⟩ : ∃ ys : Nat → Int, ys = fun q => ((cwd (2 * t) n (nb n y) q : Nat) : Int) := ⟨_, rfl⟩
  have HC : Hid (∀ X, Below w.heap.size w X → Calls Try.prog 39 #[bv, .int .i64 (t : Int)] X fun e w' => Pbo X w' e N ys true) := fun X hX => by rw [hN, hys]; exact iCode_good (hb.below hX) hy hc
  rw [← hN, ← hys]
  obtain ⟨ao, cap, rfl, _, _⟩ := hb
  clear h hc hy hN hys
  go_enter Try.func23, Try.ntmps23
  go_upto_region 1 with fail
  go_region_with (first | (go_at_call 39; refine (HC.out _ (Below.refl _ _).drew).mono ?_; rintro e w1 ⟨u, rfl, ho, hb1⟩; obtain ⟨ua, uc, hu9⟩ := own_sliceb ho; subst hu9; have hb2 : Below w.heap.size w w1 := bstep (Below.refl _ _).drew hb1; have O1 : Hid (w1.ownsRow w.heap.size 5 1 (.slice ua N uc) N (bls ys N)) := ho; have P1 : Hid (Pas w1 p wi (t : Int) ro se ra si _ _ _) := H.out.below hb2 hp; have z7 := P1.out.z7; have z8 := P1.out.z8; have z9 := P1.out.z9; have d7 := P1.out.c7; have d8 := P1.out.c8; have d9 := P1.out.c9; have B1 : Hid (Below w.heap.size w w1) := hb2; clear ho hb1 hb2))
  all_goals
    go_wp2
    go_ret
    exact ⟨rfl, _, P1.out.put7 _, own_kp ((Kp.refl p w1).put 7 _) O1.out hp, ((Kp.refl p w).below B1.out).put 7 _⟩
end Go.Proofs.Ytpjpkkgcnnmljaa

namespace Go.Proofs.Ytpjpkkgcnnmljaa
open Go.RowKit

set_option maxRecDepth 20000 in
set_option maxHeartbeats 8000000 in
theorem stg_unpack {w : World} {p : Nat} {wi me ro se ra si : Int} {bv iv pv : Value} {n : Nat} {y : Nat → Int} (h : Pas w p wi me ro se ra si bv iv pv) (hb : Bl w bv n y) (hy : Byt n y) (hn : n ≤ 128) :
    Calls Try.prog 24 #[.pointer (some ⟨p, 0, none⟩)] w fun e w' => e = .returned (.bool true) ∧ ∃ u, Pas w' p wi me ro se ra si bv u pv ∧ w'.ownsRow w.heap.size 3 1 u (8 * n) (ils (ubv y) (8 * n)) ∧ Kp p w w' := by
  have hp := h.lt
  have H : Hid (Pas w p wi me ro se ra si bv iv pv) := h
  have f0 : w.drew.cell? ⟨p, 0, none⟩ = _ := h.c0
  have f1 : w.drew.cell? ⟨p, 1, none⟩ = _ := h.c1
  have f2 : w.drew.cell? ⟨p, 2, none⟩ = _ := h.c2
  have f3 : w.drew.cell? ⟨p, 3, none⟩ = _ := h.c3
  have f7 : w.drew.cell? ⟨p, 7, none⟩ = _ := h.c7
  have f8 : w.drew.cell? ⟨p, 8, none⟩ = _ := h.c8
  have f9 : w.drew.cell? ⟨p, 9, none⟩ = _ := h.c9
  obtain ⟨N, hN⟩ : ∃ N, N = 8 * n := ⟨_, rfl⟩
  have e8 : (8 : Int) * (n : Int) = (N : Int) := by omega
  have HC : Hid (∀ X, Below w.heap.size w X → Calls Try.prog 40 #[bv, .int .i64 (N : Int)] X fun e w' => Pst X w' e N (ubv y) true) := fun X hX => iUnp_good (hb.below hX) hy (by unfold GUn; omega) (fun i h1 h2 => by omega)
  have HNN : Hid (N = 8 * n) := hN
  rw [← hN]
  obtain ⟨ao, cap, rfl, _, _⟩ := hb
  clear h hy hN
  go_enter Try.func24, Try.ntmps24
  go_upto_region 1 with fail
  refine wp_region_any (by kernel_rfl) ?_
  change wpAny _ _ _ _ _ _ _ (World.drew _)
  refine wpI_any (I := fun X => X.cell? ⟨p, 7, none⟩ = some (.slice ao n cap)) _ _ _ _ ?_
  refine wpI_take (i := 0) (v := ?_) rfl (by kernel_rfl) (by kernel_rfl) (by kernel_rfl) (fun _ _ _ h => h) ⟨by rfl, ?_⟩ ?_
  rotate_left
  · intro X hI; go_simp; try go_bits
    try rw [if_pos (by omega)]
    try with_reducible rfl
  refine wpI_take (i := 1) (v := ?_) rfl (by kernel_rfl) (by kernel_rfl) (by kernel_rfl) (fun _ _ _ h => h) ⟨by rfl, ?_⟩ ?_
  rotate_left
  · intro X hI; go_simp; try go_bits
    try rw [if_pos (by omega)]
    try with_reducible rfl
  refine wpI_take (i := 2) (v := ?_) rfl (by kernel_rfl) (by kernel_rfl) (by kernel_rfl) (fun _ _ _ h => h) ⟨by rfl, ?_⟩ ?_
  rotate_left
  · intro X hI; go_simp; try go_bits
    try rw [if_pos (by omega)]
    try with_reducible rfl
  refine wpI_take (i := 3) (v := ?_) rfl (by kernel_rfl) (by kernel_rfl) (by kernel_rfl) (fun _ _ _ h => h) ⟨by rfl, ?_⟩ ?_
  rotate_left
  · intro X hI; go_simp; try go_bits
    try rw [if_pos (by omega)]
    try with_reducible rfl
  refine wpI_take (i := 4) (v := ?_) rfl (by kernel_rfl) (by kernel_rfl) (by kernel_rfl) (fun _ _ _ h => h) ⟨by rfl, ?_⟩ ?_
  rotate_left
  · intro X hI; have q7 := hI; go_simp; try go_bits
    try rw [if_pos (by omega)]
    try with_reducible rfl
  refine wpI_take (i := 5) (v := ?_) rfl (by kernel_rfl) (by kernel_rfl) (by kernel_rfl) (fun _ _ _ h => h) ⟨by rfl, ?_⟩ ?_
  rotate_left
  · intro X hI; go_simp; try go_bits
    try rw [if_pos (by omega)]
    try with_reducible rfl
  refine wpI_take (i := 6) (v := ?_) rfl (by kernel_rfl) (by kernel_rfl) (by kernel_rfl) (fun _ _ _ h => h) ⟨by rfl, ?_⟩ ?_
  rotate_left
  · intro X hI; go_simp; try go_bits
    try rw [if_pos (by omega)]
    try with_reducible rfl
  refine wpI_take (i := 7) (v := ?_) rfl (by kernel_rfl) (by kernel_rfl) (by kernel_rfl) (fun _ _ _ h => h) ⟨by rfl, ?_⟩ ?_
  rotate_left
  · intro X hI; go_simp; try go_bits
    try rw [if_pos (by omega)]
    try with_reducible rfl
  refine wpI_take (i := 8) (v := ?_) rfl (by kernel_rfl) (by kernel_rfl) (by kernel_rfl) (fun _ _ _ h => h) ⟨by rfl, ?_⟩ ?_
  rotate_left
  · intro X hI; have q7 := hI; go_simp; try go_bits
    try rw [if_pos (by omega)]
    try with_reducible rfl
  refine wpI_take (i := 9) (v := ?_) rfl (by kernel_rfl) (by kernel_rfl) (by kernel_rfl) (fun _ _ _ h => h) ⟨by rfl, ?_⟩ ?_
  rotate_left
  · intro X hI; go_simp; try go_bits
    try rw [if_pos (by omega)]
    try with_reducible rfl
  refine wpI_take (i := 10) (v := ?_) rfl (by kernel_rfl) (by kernel_rfl) (by kernel_rfl) (fun _ _ _ h => h) ⟨by rfl, ?_⟩ ?_
  rotate_left
  · intro X hI; go_simp; try go_bits
    try rw [if_pos (by omega)]
    try with_reducible rfl
  refine wpI_only (i := 11) rfl (by kernel_rfl) f7 (by rfl) ?_
  intro K hK
  go_simp
  go_wp2_with (first | (go_at_call 40; refine (HC.out _ (Below.refl _ _).drew).mono ?_; rintro e w1 ⟨u, rfl, ho, hb1⟩; obtain ⟨ua, uc, hu9⟩ := own_slicei ho; subst hu9; have hb2 : Below w.heap.size w w1 := bstep (Below.refl _ _).drew hb1; have O1 : Hid (w1.ownsRow w.heap.size 3 1 (.slice ua N uc) N (ils (ubv y) N)) := ho; have P1 : Hid (Pas w1 p wi me ro se ra si _ _ _) := H.out.below hb2 hp; have z7 := P1.out.z7; have z8 := P1.out.z8; have z9 := P1.out.z9; have d7 := P1.out.c7; have d8 := P1.out.c8; have d9 := P1.out.c9; have B1 : Hid (Below w.heap.size w w1) := hb2; clear ho hb1 hb2))
  refine wpI_take (i := 12) (v := ?_) rfl (by kernel_rfl) (by kernel_rfl) (by kernel_rfl) (fun _ _ _ h => h) ⟨by rfl, ?_⟩ ?_
  rotate_left
  · intro X hI; go_simp; try go_bits
    try rw [if_pos (by omega)]
    try with_reducible rfl
  refine wpI_take (i := 13) (v := ?_) rfl (by kernel_rfl) (by kernel_rfl) (by kernel_rfl) (fun _ _ _ h => h) ⟨by rfl, ?_⟩ ?_
  rotate_left
  · intro X hI; go_simp; try go_bits
    try rw [if_pos (by omega)]
    try with_reducible rfl
  refine wpI_take (i := 14) (v := ?_) rfl (by kernel_rfl) (by kernel_rfl) (by kernel_rfl) (fun _ _ _ h => h) ⟨by rfl, ?_⟩ ?_
  rotate_left
  · intro X hI; go_simp; try go_bits
    try rw [if_pos (by omega)]
    try with_reducible rfl
  refine wpI_take (i := 15) (v := ?_) rfl (by kernel_rfl) (by kernel_rfl) (by kernel_rfl) (fun _ _ _ h => h) ⟨by rfl, ?_⟩ ?_
  rotate_left
  · intro X hI; go_simp; try go_bits
    try rw [if_pos (by omega)]
    try with_reducible rfl
  refine wpI_take (i := 16) (v := ?_) rfl (by kernel_rfl) (by kernel_rfl) (by kernel_rfl) (fun _ _ _ h => h) ⟨by rfl, ?_⟩ ?_
  rotate_left
  · intro X hI; go_simp; try go_bits
    try rw [if_pos (by omega)]
    try with_reducible rfl
  refine wpI_only (i := 17) rfl (by kernel_rfl) d7 (by rfl) ?_
  intro K hK
  go_simp
  try go_bits
  refine hK _ _ ?_
  refine wpI_only (i := 18) rfl (by kernel_rfl) (by simp [go_sem, d7]) (by rfl) ?_
  intro K hK
  go_simp
  try go_bits
  refine hK _ _ ?_
  refine wpI_done (by simp [go_sem, d7]) (by kernel_rfl) ?_ _
  go_wp2
  go_ret
  exact ⟨rfl, _, P1.out.put8 _, own_kp ((Kp.refl p w1).put 8 _) O1.out hp, ((Kp.refl p w).below B1.out).put 8 _⟩
end Go.Proofs.Ytpjpkkgcnnmljaa

namespace Go.Proofs.Ytpjpkkgcnnmljaa
open Go.RowKit

set_option maxRecDepth 20000 in
set_option maxHeartbeats 8000000 in
theorem stg_weave {w : World} {p : Nat} {wi me se ra si : Int} {r : Nat} {bv iv pv : Value} {n : Nat} {y : Nat → Int} (h : Pas w p wi me (r : Int) se ra si bv iv pv) (hb : Il w iv n y) (hc : GWv n (r : Int)) :
    Calls Try.prog 25 #[.pointer (some ⟨p, 0, none⟩)] w fun e w' => e = .returned (.bool true) ∧ ∃ u, Pas w' p wi me (r : Int) se ra si bv u pv ∧ w'.ownsRow w.heap.size 3 1 u n (ils (wvf n r y) n) ∧ Kp p w w' := by
  have hp := h.lt
  have H : Hid (Pas w p wi me (r : Int) se ra si bv iv pv) := h
  have f0 : w.drew.cell? ⟨p, 0, none⟩ = _ := h.c0
  have f1 : w.drew.cell? ⟨p, 1, none⟩ = _ := h.c1
  have f2 : w.drew.cell? ⟨p, 2, none⟩ = _ := h.c2
  have f3 : w.drew.cell? ⟨p, 3, none⟩ = _ := h.c3
  have f7 : w.drew.cell? ⟨p, 7, none⟩ = _ := h.c7
  have f8 : w.drew.cell? ⟨p, 8, none⟩ = _ := h.c8
  have f9 : w.drew.cell? ⟨p, 9, none⟩ = _ := h.c9
  have HC : Hid (∀ X, Below w.heap.size w X → Calls Try.prog 41 #[iv, .int .i64 (r : Int)] X fun e w' => Pst X w' e n (wvf n r y) true) := fun X hX => iWeave_good (hb.below hX) hc
  obtain ⟨ao, cap, rfl, _, _⟩ := hb
  clear h hc
  go_enter Try.func25, Try.ntmps25
  go_upto_region 1 with fail
  go_region_with (first | (go_at_call 41; refine (HC.out _ (Below.refl _ _).drew).mono ?_; rintro e w1 ⟨u, rfl, ho, hb1⟩; obtain ⟨ua, uc, hu9⟩ := own_slicei ho; subst hu9; have hb2 : Below w.heap.size w w1 := bstep (Below.refl _ _).drew hb1; have O1 : Hid (w1.ownsRow w.heap.size 3 1 (.slice ua n uc) n (ils (wvf n r y) n)) := ho; have P1 : Hid (Pas w1 p wi me (r : Int) se ra si _ _ _) := H.out.below hb2 hp; have z7 := P1.out.z7; have z8 := P1.out.z8; have z9 := P1.out.z9; have d7 := P1.out.c7; have d8 := P1.out.c8; have d9 := P1.out.c9; have B1 : Hid (Below w.heap.size w w1) := hb2; clear ho hb1 hb2))
  all_goals
    go_wp2
    go_ret
    exact ⟨rfl, _, P1.out.put8 _, own_kp ((Kp.refl p w1).put 8 _) O1.out hp, ((Kp.refl p w).below B1.out).put 8 _⟩
end Go.Proofs.Ytpjpkkgcnnmljaa

namespace Go.Proofs.Ytpjpkkgcnnmljaa
open Go.RowKit

set_option maxRecDepth 20000 in
set_option maxHeartbeats 8000000 in
theorem stg_stir {w : World} {p : Nat} {wi me ro ra si : Int} {d : Nat} {bv iv pv : Value} {n : Nat} {y : Nat → Int} (h : Pas w p wi me ro (d : Int) ra si bv iv pv) (hb : Il w iv n y) (hc : GSt n y 46080 (d : Int)) :
    Calls Try.prog 26 #[.pointer (some ⟨p, 0, none⟩)] w fun e w' => e = .returned (.bool true) ∧ ∃ u, Pas w' p wi me ro (d : Int) ra si bv u pv ∧ w'.ownsRow w.heap.size 3 1 u n (ils (stv 46080 d y) n) ∧ Kp p w w' := by
  have hp := h.lt
  have H : Hid (Pas w p wi me ro (d : Int) ra si bv iv pv) := h
  have f0 : w.drew.cell? ⟨p, 0, none⟩ = _ := h.c0
  have f1 : w.drew.cell? ⟨p, 1, none⟩ = _ := h.c1
  have f2 : w.drew.cell? ⟨p, 2, none⟩ = _ := h.c2
  have f3 : w.drew.cell? ⟨p, 3, none⟩ = _ := h.c3
  have f7 : w.drew.cell? ⟨p, 7, none⟩ = _ := h.c7
  have f8 : w.drew.cell? ⟨p, 8, none⟩ = _ := h.c8
  have f9 : w.drew.cell? ⟨p, 9, none⟩ = _ := h.c9
  have HC : Hid (∀ X, Below w.heap.size w X → Calls Try.prog 42 #[iv, .int .i64 46080, .int .i64 (d : Int)] X fun e w' => Pst X w' e n (stv 46080 d y) true) := fun X hX => iStir_good (t := 46080) (hb.below hX) hc
  obtain ⟨ao, cap, rfl, _, _⟩ := hb
  clear h hc
  go_enter Try.func26, Try.ntmps26
  go_upto_region 1 with fail
  go_region_with (first | (go_at_call 42; refine (HC.out _ (Below.refl _ _).drew).mono ?_; rintro e w1 ⟨u, rfl, ho, hb1⟩; obtain ⟨ua, uc, hu9⟩ := own_slicei ho; subst hu9; have hb2 : Below w.heap.size w w1 := bstep (Below.refl _ _).drew hb1; have O1 : Hid (w1.ownsRow w.heap.size 3 1 (.slice ua n uc) n (ils (stv 46080 d y) n)) := ho; have P1 : Hid (Pas w1 p wi me ro (d : Int) ra si _ _ _) := H.out.below hb2 hp; have z7 := P1.out.z7; have z8 := P1.out.z8; have z9 := P1.out.z9; have d7 := P1.out.c7; have d8 := P1.out.c8; have d9 := P1.out.c9; have B1 : Hid (Below w.heap.size w w1) := hb2; clear ho hb1 hb2))
  all_goals
    go_wp2
    go_ret
    exact ⟨rfl, _, P1.out.put8 _, own_kp ((Kp.refl p w1).put 8 _) O1.out hp, ((Kp.refl p w).below B1.out).put 8 _⟩
end Go.Proofs.Ytpjpkkgcnnmljaa

namespace Go.Proofs.Ytpjpkkgcnnmljaa
open Go.RowKit

set_option maxRecDepth 20000 in
set_option maxHeartbeats 8000000 in
theorem stg_place {w : World} {p : Nat} {me ro se ra si : Int} {hf : Nat} {bv iv pv : Value} {n q : Nat} {y : Nat → Int} (h : Pas w p ((2 * hf : Nat) : Int) me ro se ra si bv iv pv) (hb : Il w iv n y) (hc : Bts n y) (hh : Hlf hf) (hq : q = (n + 2 * hf - 1) / (2 * hf)) :
    Calls Try.prog 27 #[.pointer (some ⟨p, 0, none⟩)] w fun e w' => e = .returned (.bool true) ∧ ∃ u, Pas w' p ((2 * hf : Nat) : Int) me ro se ra si bv iv u ∧ w'.ownsRow w.heap.size 47 2 u q (ils (mpz n y hf) (q * 2)) ∧ Kp p w w' := by
  have hp := h.lt
  have H : Hid (Pas w p ((2 * hf : Nat) : Int) me ro se ra si bv iv pv) := h
  have f0 : w.drew.cell? ⟨p, 0, none⟩ = _ := h.c0
  have f1 : w.drew.cell? ⟨p, 1, none⟩ = _ := h.c1
  have f2 : w.drew.cell? ⟨p, 2, none⟩ = _ := h.c2
  have f3 : w.drew.cell? ⟨p, 3, none⟩ = _ := h.c3
  have f7 : w.drew.cell? ⟨p, 7, none⟩ = _ := h.c7
  have f8 : w.drew.cell? ⟨p, 8, none⟩ = _ := h.c8
  have f9 : w.drew.cell? ⟨p, 9, none⟩ = _ := h.c9
  obtain ⟨W9, hW9⟩ : ∃ W9 : Int, W9 = ((2 * hf : Nat) : Int) := ⟨_, rfl⟩
  have HC : Hid (∀ X, Below w.heap.size w X → Calls Try.prog 43 #[.int .i64 W9, iv] X fun e w' => Ppk X w' e q (mpz n y hf) true) := fun X hX => by rw [hW9]; exact iMap_good (hb.below hX) hc hh hq
  rw [← hW9] at f0 H ⊢
  obtain ⟨ao, cap, rfl, _, _⟩ := hb
  clear h hc hh hq hW9
  go_enter Try.func27, Try.ntmps27
  go_upto_region 1 with fail
  go_region_with (first | (go_at_call 43; refine (HC.out _ (Below.refl _ _).drew).mono ?_; rintro e w1 ⟨u, rfl, ho, hb1⟩; obtain ⟨ua, uc, hu9⟩ := own_slicep ho; subst hu9; have hb2 : Below w.heap.size w w1 := bstep (Below.refl _ _).drew hb1; have O1 : Hid (w1.ownsRow w.heap.size 47 2 (.slice ua q uc) q (ils (mpz n y hf) (q * 2))) := ho; have P1 : Hid (Pas w1 p W9 me ro se ra si _ _ _) := H.out.below hb2 hp; have z7 := P1.out.z7; have z8 := P1.out.z8; have z9 := P1.out.z9; have d7 := P1.out.c7; have d8 := P1.out.c8; have d9 := P1.out.c9; have B1 : Hid (Below w.heap.size w w1) := hb2; clear ho hb1 hb2))
  all_goals
    go_wp2
    go_ret
    exact ⟨rfl, _, P1.out.put9 _, own_kp ((Kp.refl p w1).put 9 _) O1.out hp, ((Kp.refl p w).below B1.out).put 9 _⟩
end Go.Proofs.Ytpjpkkgcnnmljaa

namespace Go.Proofs.Ytpjpkkgcnnmljaa
open Go.RowKit


end Go.Proofs.Ytpjpkkgcnnmljaa
