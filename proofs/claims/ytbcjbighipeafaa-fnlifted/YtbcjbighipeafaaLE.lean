/- LiftOnce: where the program makes its lists. -/
import Derived.Test.YtbcjbighipeafaaLC
import Derived.Test.YtbcjbighipeafaaI1
import Derived.Test.YtbcjbighipeafaaMK
import Derived.BigRegion
namespace Go.Proofs.Ytbcjbighipeafaa
open Go.RowKit

set_option maxHeartbeats 1000000 in
theorem lowOf_any {w : World} {n p : Nat} (hn : n ≤ 1048576) (hp : p = (n + 1) / 2) : Calls Try.prog 25 #[.int .i64 n] w fun e w' => e = .returned (.int .i64 p) ∧ w' = w := by
  have E : Hid (((n : Int) + 1) / 2 = (p : Int)) := by show ((n : Int) + 1) / 2 = (p : Int); omega
  clear hp
  go_enter Try.func25, Try.ntmps25
  go_wp2
  go_ret
  exact ⟨congrArg (fun z => Ending.returned (.int .i64 z)) E.out, rfl⟩

/-- A list of noughts made. -/
def mkd (W : World) (k : Nat) : World := W.alloc (.cells (madeCells (Value.int .i64 0).cells (k * 1)) 3)

theorem mkd_run (W : World) {k : Nat} (hk : k ≤ 1048576) : (Instr.makeSlice 24 (.int .i64 (k : Int)) (.int .i64 (k : Int))).run Try.prog W = .ok (.slice (some ⟨W.heap.size, 0, none⟩) k k) (mkd W k) := by
  obtain ⟨i0, hi, hz0, hz1, hz2⟩ := info_parts Try.info3
  have h := run_make (P := Try.prog) W 24 3 i0 (.int .i64 0) Try.underlying24 hi hz0 .i64 .i64 k k (by omega) (Int.le_refl _) (by rw [hz2]; omega) (by omega)
  rw [Int.toNat_natCast, hz1] at h
  exact h

theorem mkd_own (W : World) {B k : Nat} (hk : k ≤ 1048576) (hB : B ≤ W.heap.size) : (mkd W k).ownsRow B 3 1 (.slice (some ⟨W.heap.size, 0, none⟩) k k) k (ils (fun _ => 0) k) := by
  have h := World.ownsRow_lit (base := B) (e := 3) (size := 1) W (madeCells (Value.int .i64 0).cells (k * 1)) k hB (by unfold maxLen; omega) (size_madeCells _ _)
  rw [made_zero] at h
  exact h

theorem mkd_below (W : World) (k : Nat) : Below W.heap.size W (mkd W k) := below_one _ _

theorem own_lt {w : World} {B s n g c : Nat} {e : TypeId} {xs : List Value} (h : w.ownsRow B e s (.slice (some ⟨g, 0, none⟩) n c) n xs) : B ≤ g ∧ g < w.heap.size := by
  have := World.ownsRow.lt h g rfl
  omega

/-- What stands while two lists are made, in whatever order. -/
structure Mk2 (w : World) (n m : Nat) (gl gh : Option Nat) (W : World) : Prop where
  bel : Below w.heap.size w W
  lo : ∀ g, gl = some g → W.ownsRow w.heap.size 3 1 (.slice (some ⟨g, 0, none⟩) n n) n (ils (fun _ => 0) n)
  hi : ∀ g, gh = some g → W.ownsRow w.heap.size 3 1 (.slice (some ⟨g, 0, none⟩) m m) m (ils (fun _ => 0) m)
  ap : ∀ g h, gl = some g → gh = some h → g ≠ h

theorem Mk2.start (w : World) (n m : Nat) : Mk2 w n m none none w.drew := ⟨(Below.refl _ _).drew, fun _ h => (by cases h), fun _ h => (by cases h), fun _ _ h => (by cases h)⟩

theorem Mk2.mlo {w : World} {n m : Nat} {gh : Option Nat} {W : World} (h : Mk2 w n m none gh W) (hn : n ≤ 1048576) : Mk2 w n m (some W.heap.size) gh (mkd W n) := by
  refine ⟨bstep h.bel (mkd_below _ _), ?_, fun g hg => own_below (h.hi g hg) (mkd_below _ _), ?_⟩
  · intro g hg
    obtain rfl := Option.some.inj hg
    exact mkd_own W hn h.bel.size
  · intro g k hg hk
    obtain rfl := Option.some.inj hg
    have := own_lt (h.hi k hk)
    omega

theorem Mk2.mhi {w : World} {n m : Nat} {gl : Option Nat} {W : World} (h : Mk2 w n m gl none W) (hn : m ≤ 1048576) : Mk2 w n m gl (some W.heap.size) (mkd W m) := by
  refine ⟨bstep h.bel (mkd_below _ _), fun g hg => own_below (h.lo g hg) (mkd_below _ _), ?_, ?_⟩
  · intro g hg
    obtain rfl := Option.some.inj hg
    exact mkd_own W hn h.bel.size
  · intro g k hg hk
    obtain rfl := Option.some.inj hk
    have := own_lt (h.lo g hg)
    omega

/-- The region's operations. -/
def ops24 : Array Oper := #[{ dst := some 13, op := Op.move (Operand.tmp 1), type := 24, pos := "l09_lift.go:90", after := #[], guard := none },
  { dst := some 14, op := Op.call { callee := Callee.builtin Builtin.len, args := #[Operand.tmp 13], argTypes := #[24] }, type := 3, pos := "l09_lift.go:90", after := #[{ on := 0, ground := Ground.data }], guard := none },
  { dst := some 15, op := Op.call { callee := Callee.value (Operand.func 25), args := #[Operand.tmp 14], argTypes := #[3] }, type := 3, pos := "l09_lift.go:90", after := #[{ on := 1, ground := Ground.data }], guard := none },
  { dst := some 16, op := Op.makeSlice 24 (Operand.tmp 15) (Operand.tmp 15), type := 24, pos := "l09_lift.go:90", after := #[{ on := 2, ground := Ground.data }, { on := 2, ground := Ground.data }], guard := none },
  { dst := some 17, op := Op.move (Operand.tmp 1), type := 24, pos := "l09_lift.go:90", after := #[], guard := none },
  { dst := some 18, op := Op.call { callee := Callee.builtin Builtin.len, args := #[Operand.tmp 17], argTypes := #[24] }, type := 3, pos := "l09_lift.go:90", after := #[{ on := 4, ground := Ground.data }], guard := none },
  { dst := some 19, op := Op.binOp BinOp.quo 3 (Operand.tmp 18) (Operand.const (Value.int IntKind.i64 2)) 3, type := 3, pos := "l09_lift.go:90", after := #[{ on := 5, ground := Ground.data }], guard := none },
  { dst := some 20, op := Op.makeSlice 24 (Operand.tmp 19) (Operand.tmp 19), type := 24, pos := "l09_lift.go:90", after := #[{ on := 6, ground := Ground.data }, { on := 6, ground := Ground.data }], guard := none },
  { dst := some 6, op := Op.assign (Operand.tmp 16), type := 24, pos := "l09_lift.go:90", after := #[{ on := 3, ground := Ground.data }, { on := 2, ground := Ground.chain }, { on := 0, ground := Ground.phase }, { on := 1, ground := Ground.phase }, { on := 2, ground := Ground.phase }, { on := 3, ground := Ground.phase }, { on := 4, ground := Ground.textOnly Departure.lateStores }, { on := 5, ground := Ground.textOnly Departure.lateStoresUnsure }, { on := 6, ground := Ground.textOnly Departure.lateStores }, { on := 7, ground := Ground.textOnly Departure.lateStoresUnsure }], guard := none },
  { dst := some 7, op := Op.assign (Operand.tmp 20), type := 24, pos := "l09_lift.go:90", after := #[{ on := 7, ground := Ground.data }, { on := 8, ground := Ground.chain }, { on := 0, ground := Ground.phase }, { on := 1, ground := Ground.phase }, { on := 2, ground := Ground.phase }, { on := 3, ground := Ground.phase }, { on := 4, ground := Ground.phase }, { on := 5, ground := Ground.phase }, { on := 6, ground := Ground.phase }, { on := 7, ground := Ground.phase }, { on := 8, ground := Ground.phase }], guard := none }]

set_option maxRecDepth 100000 in
set_option maxHeartbeats 4000000 in
theorem reg24 {w : World} {kind : Int} {ao : Option Addr} {n cap p q : Nat} (hn : n ≤ 1048576) (hp : Hid (p = (n + 1) / 2)) (hq : (n : Int) / 2 = (q : Int)) :
    Code.wp Try.prog (.region 1 ops24 true) (fun e a W => e = .normal ∧ ∃ gl gh, a = ⟨#[.int .i64 kind, .slice ao n cap, undef, undef, .slice none 0 0, .slice none 0 0, .slice (some ⟨gl, 0, none⟩) p p, .slice (some ⟨gh, 0, none⟩) q q, undef, undef, undef, undef, undef, .slice ao n cap, .int .i64 n, .int .i64 p, .slice (some ⟨gl, 0, none⟩) p p, .slice ao n cap, .int .i64 n, .int .i64 q, .slice (some ⟨gh, 0, none⟩) q q, undef, undef, undef, undef, undef, undef, undef, undef, undef, undef, undef, undef, undef, undef, undef, undef, undef, undef, undef, undef, undef, undef, undef, undef, undef, undef, undef, undef, undef, undef, undef, undef, undef, undef, undef, undef, undef, undef, undef, undef, undef, undef, undef, undef, undef, undef, undef, undef, undef, undef, undef, undef, undef, undef, undef, undef, undef, undef, undef, undef, undef], []⟩ ∧ Mk2 w p q (some gl) (some gh) W)
      ⟨#[.int .i64 kind, .slice ao n cap, undef, undef, .slice none 0 0, .slice none 0 0, undef, undef, undef, undef, undef, undef, undef, undef, undef, undef, undef, undef, undef, undef, undef, undef, undef, undef, undef, undef, undef, undef, undef, undef, undef, undef, undef, undef, undef, undef, undef, undef, undef, undef, undef, undef, undef, undef, undef, undef, undef, undef, undef, undef, undef, undef, undef, undef, undef, undef, undef, undef, undef, undef, undef, undef, undef, undef, undef, undef, undef, undef, undef, undef, undef, undef, undef, undef, undef, undef, undef, undef, undef, undef, undef, undef], []⟩ w := by
  unfold ops24
  have bp : p ≤ 1048576 := by have := hp.out; omega
  have bq : q ≤ 1048576 := by omega
  refine wp_region_any (by kernel_rfl) ?_
  change wpAny _ _ _ _ _ _ _ (World.drew _)
  refine wpI_any (I := fun _ => True) _ _ _ _ ?_
  refine wpI_take (i := 0) (v := ?_) rfl (by kernel_rfl) (by kernel_rfl) (by kernel_rfl) (fun _ _ _ h => by cases h.1) ⟨by rfl, ?_⟩ ?_
  rotate_left
  · intro X hI; go_simp; try go_bits
    try rw [if_pos (by omega)]
    try with_reducible rfl
  refine wpI_take (i := 1) (v := ?_) rfl (by kernel_rfl) (by kernel_rfl) (by kernel_rfl) (fun _ _ _ h => by cases h.1) ⟨by rfl, ?_⟩ ?_
  rotate_left
  · intro X hI; go_simp; try go_bits
    try rw [if_pos (by omega)]
    try with_reducible rfl
  refine wpI_take (i := 4) (v := ?_) rfl (by kernel_rfl) (by kernel_rfl) (by kernel_rfl) (fun _ _ _ h => by cases h.1) ⟨by rfl, ?_⟩ ?_
  rotate_left
  · intro X hI; go_simp; try go_bits
    try rw [if_pos (by omega)]
    try with_reducible rfl
  refine wpI_take (i := 5) (v := ?_) rfl (by kernel_rfl) (by kernel_rfl) (by kernel_rfl) (fun _ _ _ h => by cases h.1) ⟨by rfl, ?_⟩ ?_
  rotate_left
  · intro X hI; go_simp; try go_bits
    try rw [if_pos (by omega)]
    try with_reducible rfl
  refine wpI_take (i := 6) (v := .int .i64 q) rfl (by kernel_rfl) (by kernel_rfl) (by kernel_rfl) (fun _ _ _ h => by cases h.1) ⟨by rfl, ?_⟩ ?_
  · intro X hI; go_simp; try go_bits
    try rw [if_pos (by omega)]
    try trivial
  have S0 : Mk2 w p q none none w.drew := Mk2.start w _ _
  generalize (w : World).drew = W0 at S0 ⊢
  refine wpI_two (i := 2) (j := 7) rfl rfl (by kernel_rfl) trivial (by rfl) (by rfl) ?_ ?_
  · intro K hK
    go_simp
    go_wp2_with (go_at_call 25; (with_reducible refine (lowOf_any hn hp.out).mono ?_); rintro e w1 ⟨rfl, hw⟩; obtain rfl := hw.symm)
    refine wpI_two (i := 3) (j := 7) rfl rfl (by kernel_rfl) trivial (by rfl) (by rfl) ?_ ?_
    · intro K hK
      have hm4 := mkd_run W0 (k := p) bp
      have S1 := S0.mlo bp
      go_simp
      refine hK _ _ ?_
      clear hK K S0 hm4
      generalize W0.heap.size = b3 at S1 ⊢
      generalize mkd W0 (p) = W2 at S1 ⊢
      refine wpI_two (i := 7) (j := 8) rfl rfl (by kernel_rfl) trivial (by rfl) (by rfl) ?_ ?_
      · intro K hK
        have hm8 := mkd_run W2 (k := q) bq
        have S5 := S1.mhi bq
        go_simp
        refine hK _ _ ?_
        clear hK K S1 hm8
        generalize W2.heap.size = b7 at S5 ⊢
        generalize mkd W2 (q) = W6 at S5 ⊢
        refine wpI_only (i := 8) rfl (by kernel_rfl) trivial (by rfl) ?_
        intro K hK
        go_simp
        refine hK _ _ ?_
        clear hK K
        refine wpI_only (i := 9) rfl (by kernel_rfl) trivial (by rfl) ?_
        intro K hK
        go_simp
        refine hK _ _ ?_
        clear hK K
        refine wpI_done trivial (by kernel_rfl) ?_ _
        exact ⟨rfl, _, _, rfl, S5⟩
      · intro K hK
        go_simp
        refine hK _ _ ?_
        clear hK K
        refine wpI_only (i := 7) rfl (by kernel_rfl) trivial (by rfl) ?_
        intro K hK
        have hm12 := mkd_run W2 (k := q) bq
        have S9 := S1.mhi bq
        go_simp
        refine hK _ _ ?_
        clear hK K S1 hm12
        generalize W2.heap.size = b11 at S9 ⊢
        generalize mkd W2 (q) = W10 at S9 ⊢
        refine wpI_only (i := 9) rfl (by kernel_rfl) trivial (by rfl) ?_
        intro K hK
        go_simp
        refine hK _ _ ?_
        clear hK K
        refine wpI_done trivial (by kernel_rfl) ?_ _
        exact ⟨rfl, _, _, rfl, S9⟩
    · intro K hK
      have hm16 := mkd_run W0 (k := q) bq
      have S13 := S0.mhi bq
      go_simp
      refine hK _ _ ?_
      clear hK K S0 hm16
      generalize W0.heap.size = b15 at S13 ⊢
      generalize mkd W0 (q) = W14 at S13 ⊢
      refine wpI_only (i := 3) rfl (by kernel_rfl) trivial (by rfl) ?_
      intro K hK
      have hm20 := mkd_run W14 (k := p) bp
      have S17 := S13.mlo bp
      go_simp
      refine hK _ _ ?_
      clear hK K S13 hm20
      generalize W14.heap.size = b19 at S17 ⊢
      generalize mkd W14 (p) = W18 at S17 ⊢
      refine wpI_only (i := 8) rfl (by kernel_rfl) trivial (by rfl) ?_
      intro K hK
      go_simp
      refine hK _ _ ?_
      clear hK K
      refine wpI_only (i := 9) rfl (by kernel_rfl) trivial (by rfl) ?_
      intro K hK
      go_simp
      refine hK _ _ ?_
      clear hK K
      refine wpI_done trivial (by kernel_rfl) ?_ _
      exact ⟨rfl, _, _, rfl, S17⟩
  · intro K hK
    have hm24 := mkd_run W0 (k := q) bq
    have S21 := S0.mhi bq
    go_simp
    refine hK _ _ ?_
    clear hK K S0 hm24
    generalize W0.heap.size = b23 at S21 ⊢
    generalize mkd W0 (q) = W22 at S21 ⊢
    refine wpI_only (i := 2) rfl (by kernel_rfl) trivial (by rfl) ?_
    intro K hK
    go_simp
    go_wp2_with (go_at_call 25; (with_reducible refine (lowOf_any hn hp.out).mono ?_); rintro e w1 ⟨rfl, hw⟩; obtain rfl := hw.symm)
    refine wpI_only (i := 3) rfl (by kernel_rfl) trivial (by rfl) ?_
    intro K hK
    have hm28 := mkd_run W22 (k := p) bp
    have S25 := S21.mlo bp
    go_simp
    refine hK _ _ ?_
    clear hK K S21 hm28
    generalize W22.heap.size = b27 at S25 ⊢
    generalize mkd W22 (p) = W26 at S25 ⊢
    refine wpI_only (i := 8) rfl (by kernel_rfl) trivial (by rfl) ?_
    intro K hK
    go_simp
    refine hK _ _ ?_
    clear hK K
    refine wpI_only (i := 9) rfl (by kernel_rfl) trivial (by rfl) ?_
    intro K hK
    go_simp
    refine hK _ _ ?_
    clear hK K
    refine wpI_done trivial (by kernel_rfl) ?_ _
    exact ⟨rfl, _, _, rfl, S25⟩
end Go.Proofs.Ytbcjbighipeafaa
