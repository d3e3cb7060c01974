/- The region in which Fourier makes its lists. -/
import Derived.Test.YtlcnciibjhcbiaaDoorOH
namespace Go.Proofs.YtlcnciibjhcbiaaDoor
open Go.RowKit

/-- Its operations. -/
def ops4 : Array Oper := #[{ dst := some 17, op := Op.move (Operand.tmp 0), type := 24, pos := "l08_fourier.go:77", after := #[], guard := none },
  { dst := some 18, op := Op.call { callee := Callee.value (Operand.func 28), args := #[Operand.tmp 17], argTypes := #[24] }, type := 47, pos := "l08_fourier.go:77", after := #[{ on := 0, ground := Ground.data }], guard := none },
  { dst := some 19, op := Op.move (Operand.tmp 1), type := 4, pos := "l08_fourier.go:77", after := #[], guard := none },
  { dst := some 20, op := Op.call { callee := Callee.value (Operand.func 29), args := #[Operand.tmp 19], argTypes := #[4] }, type := 49, pos := "l08_fourier.go:77", after := #[{ on := 2, ground := Ground.data }, { on := 1, ground := Ground.chain }], guard := none },
  { dst := some 21, op := Op.load 3 (Operand.tmp 6), type := 3, pos := "l08_fourier.go:77", after := #[], guard := none },
  { dst := some 22, op := Op.call { callee := Callee.value (Operand.tmp 20), args := #[Operand.tmp 21], argTypes := #[3] }, type := 47, pos := "l08_fourier.go:77", after := #[{ on := 3, ground := Ground.data }, { on := 4, ground := Ground.data }, { on := 3, ground := Ground.chain }], guard := none },
  { dst := some 7, op := Op.alloc 47, type := 0, pos := "l08_fourier.go:77", after := #[], guard := none },
  { dst := some 8, op := Op.alloc 47, type := 0, pos := "l08_fourier.go:77", after := #[], guard := none },
  { dst := none, op := Op.store 47 (Operand.tmp 7) (Operand.tmp 18), type := 0, pos := "l08_fourier.go:77", after := #[{ on := 6, ground := Ground.data }, { on := 1, ground := Ground.data }, { on := 5, ground := Ground.chain }, { on := 0, ground := Ground.phase }, { on := 1, ground := Ground.phase }, { on := 2, ground := Ground.textOnly Departure.lateStores }, { on := 3, ground := Ground.textOnly Departure.lateStoresUnsure }, { on := 4, ground := Ground.textOnly Departure.lateStores }, { on := 5, ground := Ground.textOnly Departure.lateStoresUnsure }, { on := 6, ground := Ground.phase }, { on := 7, ground := Ground.phase }], guard := none },
  { dst := none, op := Op.store 47 (Operand.tmp 8) (Operand.tmp 22), type := 0, pos := "l08_fourier.go:77", after := #[{ on := 7, ground := Ground.data }, { on := 5, ground := Ground.data }, { on := 8, ground := Ground.chain }, { on := 0, ground := Ground.phase }, { on := 1, ground := Ground.phase }, { on := 2, ground := Ground.phase }, { on := 3, ground := Ground.phase }, { on := 4, ground := Ground.phase }, { on := 5, ground := Ground.phase }, { on := 6, ground := Ground.phase }, { on := 7, ground := Ground.phase }, { on := 8, ground := Ground.phase }], guard := none }]

set_option maxRecDepth 100000 in
set_option maxHeartbeats 4000000 in
theorem freg {w : World} {s n j : Nat} {bk : Bool} {ao : Option Addr} {cap : Nat} {xs ys : Nat → Nat} {W : World} (S : Sx w s n j bk (.slice ao n cap) xs ys 0 0 0 0 0 none none W) :
    Code.wp Tryd.prog (.region 4 ops4 true) (fun e a W => e = .normal ∧ ∃ b7 b8 gn gt cl, a = ⟨#[.slice ao n cap, .bool bk, undef, undef, .slice none 0 0, .bool false, .pointer (some ⟨s, 0, none⟩), .pointer (some ⟨b7, 0, none⟩), .pointer (some ⟨b8, 0, none⟩), undef, undef, .slice ao n cap, .int .i64 n, .int .i64 n, .bool true, .bool false, undef, .slice ao n cap, zv gn n, .bool bk, cl, .int .i64 n, zv gt n, undef, undef, undef, undef, undef, undef, undef, undef, undef, undef, undef, undef, undef, undef, undef, undef, undef, undef, undef], []⟩ ∧ Sy w s n j bk (.slice ao n cap) xs ys gn gt b7 b8 W)
      ⟨#[.slice ao n cap, .bool bk, undef, undef, .slice none 0 0, .bool false, .pointer (some ⟨s, 0, none⟩), undef, undef, undef, undef, .slice ao n cap, .int .i64 n, .int .i64 n, .bool true, .bool false, undef, undef, undef, undef, undef, undef, undef, undef, undef, undef, undef, undef, undef, undef, undef, undef, undef, undef, undef, undef, undef, undef, undef, undef, undef, undef], []⟩ W := by
  unfold ops4
  refine wp_region_any (by kernel_rfl) ?_
  change wpAny _ _ _ _ _ _ _ (World.drew _)
  refine wpI_any (I := fun X => X.cell? ⟨s, 0, none⟩ = some (.int .i64 n)) _ _ _ _ ?_
  refine wpI_take (i := 0) (v := ?_) rfl (by kernel_rfl) (by kernel_rfl) (by kernel_rfl) (fun _ _ _ h => by cases h.1) ⟨by rfl, ?_⟩ ?_
  rotate_left
  · intro X hI; go_simp; try go_bits
    try rw [if_pos (by omega)]
    try with_reducible rfl
  refine wpI_take (i := 2) (v := ?_) rfl (by kernel_rfl) (by kernel_rfl) (by kernel_rfl) (fun _ _ _ h => by cases h.1) ⟨by rfl, ?_⟩ ?_
  rotate_left
  · intro X hI; go_simp; try go_bits
    try rw [if_pos (by omega)]
    try with_reducible rfl
  refine wpI_take (i := 4) (v := .int .i64 n) rfl (by kernel_rfl) (by kernel_rfl) (by kernel_rfl) (fun _ _ _ h => by cases h.1) ⟨by rfl, ?_⟩ ?_
  · intro X hI; go_simp; try go_bits
    try rw [if_pos (by omega)]
  have S0 := S.drew
  clear S
  generalize (W : World).drew = W0 at S0 ⊢
  refine wpI_three (i := 1) (j := 6) (l := 7) rfl rfl rfl (by kernel_rfl) S0.bx (by rfl) (by rfl) (by rfl) ?_ ?_ ?_
  · intro K hK
    have i1 := S0.k1
    go_simp
    go_wp2_with (go_at_call 28; (with_reducible refine i1.mono ?_); rintro e W2 ⟨g3, rfl, S1⟩; clear i1 S0)
    refine wpI_three (i := 3) (j := 6) (l := 7) rfl rfl rfl (by kernel_rfl) S1.bx (by rfl) (by rfl) (by rfl) ?_ ?_ ?_
    · intro K hK
      have i1 := S1.k2
      go_simp
      go_wp2_with (go_at_call 29; (with_reducible refine i1.mono ?_); rintro e W5 ⟨G6, p7, rfl, S4⟩; clear i1 S1)
      refine wpI_three (i := 5) (j := 6) (l := 7) rfl rfl rfl (by kernel_rfl) S4.bx (by rfl) (by rfl) (by rfl) ?_ ?_ ?_
      · intro K hK
        have i1 := S4.k3
        go_simp
        go_wp2_with (go_at_call 44; (with_reducible refine i1.mono ?_); rintro e W9 ⟨g10, rfl, S8⟩; clear i1 S4)
        refine wpI_two (i := 6) (j := 7) rfl rfl (by kernel_rfl) S8.bx (by rfl) (by rfl) ?_ ?_
        · intro K hK
          have S11 := S8.a7
          go_simp
          refine hK _ _ ?_
          clear hK K S8
          generalize W9.heap.size = b13 at S11 ⊢
          generalize W9.alloc (.cells #[.slice none 0 0] 47) = W12 at S11 ⊢
          refine wpI_only (i := 7) rfl (by kernel_rfl) S11.bx (by rfl) ?_
          intro K hK
          have S14 := S11.a8
          go_simp
          refine hK _ _ ?_
          clear hK K S11
          generalize W12.heap.size = b16 at S14 ⊢
          generalize W12.alloc (.cells #[.slice none 0 0] 47) = W15 at S14 ⊢
          obtain ⟨e7, f7, _⟩ := S14.d7 _ rfl
          obtain ⟨y17, e8, f8, ex⟩ := S14.stored
          refine wpI_only (i := 8) rfl (by kernel_rfl) S14.bx (by rfl) ?_
          intro K hK
          go_simp
          refine hK _ _ ?_
          clear hK K
          refine wpI_only (i := 9) rfl (by kernel_rfl) ex (by rfl) ?_
          intro K hK
          go_simp
          refine hK _ _ ?_
          clear hK K
          refine wpI_done y17.bx (by kernel_rfl) ?_ _
          exact ⟨rfl, _, _, _, _, _, rfl, y17⟩
        · intro K hK
          have S18 := S8.a8
          go_simp
          refine hK _ _ ?_
          clear hK K S8
          generalize W9.heap.size = b20 at S18 ⊢
          generalize W9.alloc (.cells #[.slice none 0 0] 47) = W19 at S18 ⊢
          refine wpI_only (i := 6) rfl (by kernel_rfl) S18.bx (by rfl) ?_
          intro K hK
          have S21 := S18.a7
          go_simp
          refine hK _ _ ?_
          clear hK K S18
          generalize W19.heap.size = b23 at S21 ⊢
          generalize W19.alloc (.cells #[.slice none 0 0] 47) = W22 at S21 ⊢
          obtain ⟨e7, f7, _⟩ := S21.d7 _ rfl
          obtain ⟨y24, e8, f8, ex⟩ := S21.stored
          refine wpI_only (i := 8) rfl (by kernel_rfl) S21.bx (by rfl) ?_
          intro K hK
          go_simp
          refine hK _ _ ?_
          clear hK K
          refine wpI_only (i := 9) rfl (by kernel_rfl) ex (by rfl) ?_
          intro K hK
          go_simp
          refine hK _ _ ?_
          clear hK K
          refine wpI_done y24.bx (by kernel_rfl) ?_ _
          exact ⟨rfl, _, _, _, _, _, rfl, y24⟩
      · intro K hK
        have S25 := S4.a7
        go_simp
        refine hK _ _ ?_
        clear hK K S4
        generalize W5.heap.size = b27 at S25 ⊢
        generalize W5.alloc (.cells #[.slice none 0 0] 47) = W26 at S25 ⊢
        refine wpI_two (i := 5) (j := 7) rfl rfl (by kernel_rfl) S25.bx (by rfl) (by rfl) ?_ ?_
        · intro K hK
          have i1 := S25.k3
          go_simp
          go_wp2_with (go_at_call 44; (with_reducible refine i1.mono ?_); rintro e W29 ⟨g30, rfl, S28⟩; clear i1 S25)
          refine wpI_only (i := 7) rfl (by kernel_rfl) S28.bx (by rfl) ?_
          intro K hK
          have S31 := S28.a8
          go_simp
          refine hK _ _ ?_
          clear hK K S28
          generalize W29.heap.size = b33 at S31 ⊢
          generalize W29.alloc (.cells #[.slice none 0 0] 47) = W32 at S31 ⊢
          obtain ⟨e7, f7, _⟩ := S31.d7 _ rfl
          obtain ⟨y34, e8, f8, ex⟩ := S31.stored
          refine wpI_only (i := 8) rfl (by kernel_rfl) S31.bx (by rfl) ?_
          intro K hK
          go_simp
          refine hK _ _ ?_
          clear hK K
          refine wpI_only (i := 9) rfl (by kernel_rfl) ex (by rfl) ?_
          intro K hK
          go_simp
          refine hK _ _ ?_
          clear hK K
          refine wpI_done y34.bx (by kernel_rfl) ?_ _
          exact ⟨rfl, _, _, _, _, _, rfl, y34⟩
        · intro K hK
          have S35 := S25.a8
          go_simp
          refine hK _ _ ?_
          clear hK K S25
          generalize W26.heap.size = b37 at S35 ⊢
          generalize W26.alloc (.cells #[.slice none 0 0] 47) = W36 at S35 ⊢
          refine wpI_only (i := 5) rfl (by kernel_rfl) S35.bx (by rfl) ?_
          intro K hK
          have i1 := S35.k3
          go_simp
          go_wp2_with (go_at_call 44; (with_reducible refine i1.mono ?_); rintro e W39 ⟨g40, rfl, S38⟩; clear i1 S35)
          obtain ⟨e7, f7, _⟩ := S38.d7 _ rfl
          obtain ⟨y41, e8, f8, ex⟩ := S38.stored
          refine wpI_only (i := 8) rfl (by kernel_rfl) S38.bx (by rfl) ?_
          intro K hK
          go_simp
          refine hK _ _ ?_
          clear hK K
          refine wpI_only (i := 9) rfl (by kernel_rfl) ex (by rfl) ?_
          intro K hK
          go_simp
          refine hK _ _ ?_
          clear hK K
          refine wpI_done y41.bx (by kernel_rfl) ?_ _
          exact ⟨rfl, _, _, _, _, _, rfl, y41⟩
      · intro K hK
        have S42 := S4.a8
        go_simp
        refine hK _ _ ?_
        clear hK K S4
        generalize W5.heap.size = b44 at S42 ⊢
        generalize W5.alloc (.cells #[.slice none 0 0] 47) = W43 at S42 ⊢
        refine wpI_two (i := 5) (j := 6) rfl rfl (by kernel_rfl) S42.bx (by rfl) (by rfl) ?_ ?_
        · intro K hK
          have i1 := S42.k3
          go_simp
          go_wp2_with (go_at_call 44; (with_reducible refine i1.mono ?_); rintro e W46 ⟨g47, rfl, S45⟩; clear i1 S42)
          refine wpI_only (i := 6) rfl (by kernel_rfl) S45.bx (by rfl) ?_
          intro K hK
          have S48 := S45.a7
          go_simp
          refine hK _ _ ?_
          clear hK K S45
          generalize W46.heap.size = b50 at S48 ⊢
          generalize W46.alloc (.cells #[.slice none 0 0] 47) = W49 at S48 ⊢
          obtain ⟨e7, f7, _⟩ := S48.d7 _ rfl
          obtain ⟨y51, e8, f8, ex⟩ := S48.stored
          refine wpI_only (i := 8) rfl (by kernel_rfl) S48.bx (by rfl) ?_
          intro K hK
          go_simp
          refine hK _ _ ?_
          clear hK K
          refine wpI_only (i := 9) rfl (by kernel_rfl) ex (by rfl) ?_
          intro K hK
          go_simp
          refine hK _ _ ?_
          clear hK K
          refine wpI_done y51.bx (by kernel_rfl) ?_ _
          exact ⟨rfl, _, _, _, _, _, rfl, y51⟩
        · intro K hK
          have S52 := S42.a7
          go_simp
          refine hK _ _ ?_
          clear hK K S42
          generalize W43.heap.size = b54 at S52 ⊢
          generalize W43.alloc (.cells #[.slice none 0 0] 47) = W53 at S52 ⊢
          refine wpI_only (i := 5) rfl (by kernel_rfl) S52.bx (by rfl) ?_
          intro K hK
          have i1 := S52.k3
          go_simp
          go_wp2_with (go_at_call 44; (with_reducible refine i1.mono ?_); rintro e W56 ⟨g57, rfl, S55⟩; clear i1 S52)
          obtain ⟨e7, f7, _⟩ := S55.d7 _ rfl
          obtain ⟨y58, e8, f8, ex⟩ := S55.stored
          refine wpI_only (i := 8) rfl (by kernel_rfl) S55.bx (by rfl) ?_
          intro K hK
          go_simp
          refine hK _ _ ?_
          clear hK K
          refine wpI_only (i := 9) rfl (by kernel_rfl) ex (by rfl) ?_
          intro K hK
          go_simp
          refine hK _ _ ?_
          clear hK K
          refine wpI_done y58.bx (by kernel_rfl) ?_ _
          exact ⟨rfl, _, _, _, _, _, rfl, y58⟩
    · intro K hK
      have S59 := S1.a7
      go_simp
      refine hK _ _ ?_
      clear hK K S1
      generalize W2.heap.size = b61 at S59 ⊢
      generalize W2.alloc (.cells #[.slice none 0 0] 47) = W60 at S59 ⊢
      refine wpI_two (i := 3) (j := 7) rfl rfl (by kernel_rfl) S59.bx (by rfl) (by rfl) ?_ ?_
      · intro K hK
        have i1 := S59.k2
        go_simp
        go_wp2_with (go_at_call 29; (with_reducible refine i1.mono ?_); rintro e W63 ⟨G64, p65, rfl, S62⟩; clear i1 S59)
        refine wpI_two (i := 5) (j := 7) rfl rfl (by kernel_rfl) S62.bx (by rfl) (by rfl) ?_ ?_
        · intro K hK
          have i1 := S62.k3
          go_simp
          go_wp2_with (go_at_call 44; (with_reducible refine i1.mono ?_); rintro e W67 ⟨g68, rfl, S66⟩; clear i1 S62)
          refine wpI_only (i := 7) rfl (by kernel_rfl) S66.bx (by rfl) ?_
          intro K hK
          have S69 := S66.a8
          go_simp
          refine hK _ _ ?_
          clear hK K S66
          generalize W67.heap.size = b71 at S69 ⊢
          generalize W67.alloc (.cells #[.slice none 0 0] 47) = W70 at S69 ⊢
          obtain ⟨e7, f7, _⟩ := S69.d7 _ rfl
          obtain ⟨y72, e8, f8, ex⟩ := S69.stored
          refine wpI_only (i := 8) rfl (by kernel_rfl) S69.bx (by rfl) ?_
          intro K hK
          go_simp
          refine hK _ _ ?_
          clear hK K
          refine wpI_only (i := 9) rfl (by kernel_rfl) ex (by rfl) ?_
          intro K hK
          go_simp
          refine hK _ _ ?_
          clear hK K
          refine wpI_done y72.bx (by kernel_rfl) ?_ _
          exact ⟨rfl, _, _, _, _, _, rfl, y72⟩
        · intro K hK
          have S73 := S62.a8
          go_simp
          refine hK _ _ ?_
          clear hK K S62
          generalize W63.heap.size = b75 at S73 ⊢
          generalize W63.alloc (.cells #[.slice none 0 0] 47) = W74 at S73 ⊢
          refine wpI_only (i := 5) rfl (by kernel_rfl) S73.bx (by rfl) ?_
          intro K hK
          have i1 := S73.k3
          go_simp
          go_wp2_with (go_at_call 44; (with_reducible refine i1.mono ?_); rintro e W77 ⟨g78, rfl, S76⟩; clear i1 S73)
          obtain ⟨e7, f7, _⟩ := S76.d7 _ rfl
          obtain ⟨y79, e8, f8, ex⟩ := S76.stored
          refine wpI_only (i := 8) rfl (by kernel_rfl) S76.bx (by rfl) ?_
          intro K hK
          go_simp
          refine hK _ _ ?_
          clear hK K
          refine wpI_only (i := 9) rfl (by kernel_rfl) ex (by rfl) ?_
          intro K hK
          go_simp
          refine hK _ _ ?_
          clear hK K
          refine wpI_done y79.bx (by kernel_rfl) ?_ _
          exact ⟨rfl, _, _, _, _, _, rfl, y79⟩
      · intro K hK
        have S80 := S59.a8
        go_simp
        refine hK _ _ ?_
        clear hK K S59
        generalize W60.heap.size = b82 at S80 ⊢
        generalize W60.alloc (.cells #[.slice none 0 0] 47) = W81 at S80 ⊢
        refine wpI_only (i := 3) rfl (by kernel_rfl) S80.bx (by rfl) ?_
        intro K hK
        have i1 := S80.k2
        go_simp
        go_wp2_with (go_at_call 29; (with_reducible refine i1.mono ?_); rintro e W84 ⟨G85, p86, rfl, S83⟩; clear i1 S80)
        refine wpI_only (i := 5) rfl (by kernel_rfl) S83.bx (by rfl) ?_
        intro K hK
        have i1 := S83.k3
        go_simp
        go_wp2_with (go_at_call 44; (with_reducible refine i1.mono ?_); rintro e W88 ⟨g89, rfl, S87⟩; clear i1 S83)
        obtain ⟨e7, f7, _⟩ := S87.d7 _ rfl
        obtain ⟨y90, e8, f8, ex⟩ := S87.stored
        refine wpI_only (i := 8) rfl (by kernel_rfl) S87.bx (by rfl) ?_
        intro K hK
        go_simp
        refine hK _ _ ?_
        clear hK K
        refine wpI_only (i := 9) rfl (by kernel_rfl) ex (by rfl) ?_
        intro K hK
        go_simp
        refine hK _ _ ?_
        clear hK K
        refine wpI_done y90.bx (by kernel_rfl) ?_ _
        exact ⟨rfl, _, _, _, _, _, rfl, y90⟩
    · intro K hK
      have S91 := S1.a8
      go_simp
      refine hK _ _ ?_
      clear hK K S1
      generalize W2.heap.size = b93 at S91 ⊢
      generalize W2.alloc (.cells #[.slice none 0 0] 47) = W92 at S91 ⊢
      refine wpI_two (i := 3) (j := 6) rfl rfl (by kernel_rfl) S91.bx (by rfl) (by rfl) ?_ ?_
      · intro K hK
        have i1 := S91.k2
        go_simp
        go_wp2_with (go_at_call 29; (with_reducible refine i1.mono ?_); rintro e W95 ⟨G96, p97, rfl, S94⟩; clear i1 S91)
        refine wpI_two (i := 5) (j := 6) rfl rfl (by kernel_rfl) S94.bx (by rfl) (by rfl) ?_ ?_
        · intro K hK
          have i1 := S94.k3
          go_simp
          go_wp2_with (go_at_call 44; (with_reducible refine i1.mono ?_); rintro e W99 ⟨g100, rfl, S98⟩; clear i1 S94)
          refine wpI_only (i := 6) rfl (by kernel_rfl) S98.bx (by rfl) ?_
          intro K hK
          have S101 := S98.a7
          go_simp
          refine hK _ _ ?_
          clear hK K S98
          generalize W99.heap.size = b103 at S101 ⊢
          generalize W99.alloc (.cells #[.slice none 0 0] 47) = W102 at S101 ⊢
          obtain ⟨e7, f7, _⟩ := S101.d7 _ rfl
          obtain ⟨y104, e8, f8, ex⟩ := S101.stored
          refine wpI_only (i := 8) rfl (by kernel_rfl) S101.bx (by rfl) ?_
          intro K hK
          go_simp
          refine hK _ _ ?_
          clear hK K
          refine wpI_only (i := 9) rfl (by kernel_rfl) ex (by rfl) ?_
          intro K hK
          go_simp
          refine hK _ _ ?_
          clear hK K
          refine wpI_done y104.bx (by kernel_rfl) ?_ _
          exact ⟨rfl, _, _, _, _, _, rfl, y104⟩
        · intro K hK
          have S105 := S94.a7
          go_simp
          refine hK _ _ ?_
          clear hK K S94
          generalize W95.heap.size = b107 at S105 ⊢
          generalize W95.alloc (.cells #[.slice none 0 0] 47) = W106 at S105 ⊢
          refine wpI_only (i := 5) rfl (by kernel_rfl) S105.bx (by rfl) ?_
          intro K hK
          have i1 := S105.k3
          go_simp
          go_wp2_with (go_at_call 44; (with_reducible refine i1.mono ?_); rintro e W109 ⟨g110, rfl, S108⟩; clear i1 S105)
          obtain ⟨e7, f7, _⟩ := S108.d7 _ rfl
          obtain ⟨y111, e8, f8, ex⟩ := S108.stored
          refine wpI_only (i := 8) rfl (by kernel_rfl) S108.bx (by rfl) ?_
          intro K hK
          go_simp
          refine hK _ _ ?_
          clear hK K
          refine wpI_only (i := 9) rfl (by kernel_rfl) ex (by rfl) ?_
          intro K hK
          go_simp
          refine hK _ _ ?_
          clear hK K
          refine wpI_done y111.bx (by kernel_rfl) ?_ _
          exact ⟨rfl, _, _, _, _, _, rfl, y111⟩
      · intro K hK
        have S112 := S91.a7
        go_simp
        refine hK _ _ ?_
        clear hK K S91
        generalize W92.heap.size = b114 at S112 ⊢
        generalize W92.alloc (.cells #[.slice none 0 0] 47) = W113 at S112 ⊢
        refine wpI_only (i := 3) rfl (by kernel_rfl) S112.bx (by rfl) ?_
        intro K hK
        have i1 := S112.k2
        go_simp
        go_wp2_with (go_at_call 29; (with_reducible refine i1.mono ?_); rintro e W116 ⟨G117, p118, rfl, S115⟩; clear i1 S112)
        refine wpI_only (i := 5) rfl (by kernel_rfl) S115.bx (by rfl) ?_
        intro K hK
        have i1 := S115.k3
        go_simp
        go_wp2_with (go_at_call 44; (with_reducible refine i1.mono ?_); rintro e W120 ⟨g121, rfl, S119⟩; clear i1 S115)
        obtain ⟨e7, f7, _⟩ := S119.d7 _ rfl
        obtain ⟨y122, e8, f8, ex⟩ := S119.stored
        refine wpI_only (i := 8) rfl (by kernel_rfl) S119.bx (by rfl) ?_
        intro K hK
        go_simp
        refine hK _ _ ?_
        clear hK K
        refine wpI_only (i := 9) rfl (by kernel_rfl) ex (by rfl) ?_
        intro K hK
        go_simp
        refine hK _ _ ?_
        clear hK K
        refine wpI_done y122.bx (by kernel_rfl) ?_ _
        exact ⟨rfl, _, _, _, _, _, rfl, y122⟩
  · intro K hK
    have S123 := S0.a7
    go_simp
    refine hK _ _ ?_
    clear hK K S0
    generalize W0.heap.size = b125 at S123 ⊢
    generalize W0.alloc (.cells #[.slice none 0 0] 47) = W124 at S123 ⊢
    refine wpI_two (i := 1) (j := 7) rfl rfl (by kernel_rfl) S123.bx (by rfl) (by rfl) ?_ ?_
    · intro K hK
      have i1 := S123.k1
      go_simp
      go_wp2_with (go_at_call 28; (with_reducible refine i1.mono ?_); rintro e W127 ⟨g128, rfl, S126⟩; clear i1 S123)
      refine wpI_two (i := 3) (j := 7) rfl rfl (by kernel_rfl) S126.bx (by rfl) (by rfl) ?_ ?_
      · intro K hK
        have i1 := S126.k2
        go_simp
        go_wp2_with (go_at_call 29; (with_reducible refine i1.mono ?_); rintro e W130 ⟨G131, p132, rfl, S129⟩; clear i1 S126)
        refine wpI_two (i := 5) (j := 7) rfl rfl (by kernel_rfl) S129.bx (by rfl) (by rfl) ?_ ?_
        · intro K hK
          have i1 := S129.k3
          go_simp
          go_wp2_with (go_at_call 44; (with_reducible refine i1.mono ?_); rintro e W134 ⟨g135, rfl, S133⟩; clear i1 S129)
          refine wpI_only (i := 7) rfl (by kernel_rfl) S133.bx (by rfl) ?_
          intro K hK
          have S136 := S133.a8
          go_simp
          refine hK _ _ ?_
          clear hK K S133
          generalize W134.heap.size = b138 at S136 ⊢
          generalize W134.alloc (.cells #[.slice none 0 0] 47) = W137 at S136 ⊢
          obtain ⟨e7, f7, _⟩ := S136.d7 _ rfl
          obtain ⟨y139, e8, f8, ex⟩ := S136.stored
          refine wpI_only (i := 8) rfl (by kernel_rfl) S136.bx (by rfl) ?_
          intro K hK
          go_simp
          refine hK _ _ ?_
          clear hK K
          refine wpI_only (i := 9) rfl (by kernel_rfl) ex (by rfl) ?_
          intro K hK
          go_simp
          refine hK _ _ ?_
          clear hK K
          refine wpI_done y139.bx (by kernel_rfl) ?_ _
          exact ⟨rfl, _, _, _, _, _, rfl, y139⟩
        · intro K hK
          have S140 := S129.a8
          go_simp
          refine hK _ _ ?_
          clear hK K S129
          generalize W130.heap.size = b142 at S140 ⊢
          generalize W130.alloc (.cells #[.slice none 0 0] 47) = W141 at S140 ⊢
          refine wpI_only (i := 5) rfl (by kernel_rfl) S140.bx (by rfl) ?_
          intro K hK
          have i1 := S140.k3
          go_simp
          go_wp2_with (go_at_call 44; (with_reducible refine i1.mono ?_); rintro e W144 ⟨g145, rfl, S143⟩; clear i1 S140)
          obtain ⟨e7, f7, _⟩ := S143.d7 _ rfl
          obtain ⟨y146, e8, f8, ex⟩ := S143.stored
          refine wpI_only (i := 8) rfl (by kernel_rfl) S143.bx (by rfl) ?_
          intro K hK
          go_simp
          refine hK _ _ ?_
          clear hK K
          refine wpI_only (i := 9) rfl (by kernel_rfl) ex (by rfl) ?_
          intro K hK
          go_simp
          refine hK _ _ ?_
          clear hK K
          refine wpI_done y146.bx (by kernel_rfl) ?_ _
          exact ⟨rfl, _, _, _, _, _, rfl, y146⟩
      · intro K hK
        have S147 := S126.a8
        go_simp
        refine hK _ _ ?_
        clear hK K S126
        generalize W127.heap.size = b149 at S147 ⊢
        generalize W127.alloc (.cells #[.slice none 0 0] 47) = W148 at S147 ⊢
        refine wpI_only (i := 3) rfl (by kernel_rfl) S147.bx (by rfl) ?_
        intro K hK
        have i1 := S147.k2
        go_simp
        go_wp2_with (go_at_call 29; (with_reducible refine i1.mono ?_); rintro e W151 ⟨G152, p153, rfl, S150⟩; clear i1 S147)
        refine wpI_only (i := 5) rfl (by kernel_rfl) S150.bx (by rfl) ?_
        intro K hK
        have i1 := S150.k3
        go_simp
        go_wp2_with (go_at_call 44; (with_reducible refine i1.mono ?_); rintro e W155 ⟨g156, rfl, S154⟩; clear i1 S150)
        obtain ⟨e7, f7, _⟩ := S154.d7 _ rfl
        obtain ⟨y157, e8, f8, ex⟩ := S154.stored
        refine wpI_only (i := 8) rfl (by kernel_rfl) S154.bx (by rfl) ?_
        intro K hK
        go_simp
        refine hK _ _ ?_
        clear hK K
        refine wpI_only (i := 9) rfl (by kernel_rfl) ex (by rfl) ?_
        intro K hK
        go_simp
        refine hK _ _ ?_
        clear hK K
        refine wpI_done y157.bx (by kernel_rfl) ?_ _
        exact ⟨rfl, _, _, _, _, _, rfl, y157⟩
    · intro K hK
      have S158 := S123.a8
      go_simp
      refine hK _ _ ?_
      clear hK K S123
      generalize W124.heap.size = b160 at S158 ⊢
      generalize W124.alloc (.cells #[.slice none 0 0] 47) = W159 at S158 ⊢
      refine wpI_only (i := 1) rfl (by kernel_rfl) S158.bx (by rfl) ?_
      intro K hK
      have i1 := S158.k1
      go_simp
      go_wp2_with (go_at_call 28; (with_reducible refine i1.mono ?_); rintro e W162 ⟨g163, rfl, S161⟩; clear i1 S158)
      refine wpI_only (i := 3) rfl (by kernel_rfl) S161.bx (by rfl) ?_
      intro K hK
      have i1 := S161.k2
      go_simp
      go_wp2_with (go_at_call 29; (with_reducible refine i1.mono ?_); rintro e W165 ⟨G166, p167, rfl, S164⟩; clear i1 S161)
      refine wpI_only (i := 5) rfl (by kernel_rfl) S164.bx (by rfl) ?_
      intro K hK
      have i1 := S164.k3
      go_simp
      go_wp2_with (go_at_call 44; (with_reducible refine i1.mono ?_); rintro e W169 ⟨g170, rfl, S168⟩; clear i1 S164)
      obtain ⟨e7, f7, _⟩ := S168.d7 _ rfl
      obtain ⟨y171, e8, f8, ex⟩ := S168.stored
      refine wpI_only (i := 8) rfl (by kernel_rfl) S168.bx (by rfl) ?_
      intro K hK
      go_simp
      refine hK _ _ ?_
      clear hK K
      refine wpI_only (i := 9) rfl (by kernel_rfl) ex (by rfl) ?_
      intro K hK
      go_simp
      refine hK _ _ ?_
      clear hK K
      refine wpI_done y171.bx (by kernel_rfl) ?_ _
      exact ⟨rfl, _, _, _, _, _, rfl, y171⟩
  · intro K hK
    have S172 := S0.a8
    go_simp
    refine hK _ _ ?_
    clear hK K S0
    generalize W0.heap.size = b174 at S172 ⊢
    generalize W0.alloc (.cells #[.slice none 0 0] 47) = W173 at S172 ⊢
    refine wpI_two (i := 1) (j := 6) rfl rfl (by kernel_rfl) S172.bx (by rfl) (by rfl) ?_ ?_
    · intro K hK
      have i1 := S172.k1
      go_simp
      go_wp2_with (go_at_call 28; (with_reducible refine i1.mono ?_); rintro e W176 ⟨g177, rfl, S175⟩; clear i1 S172)
      refine wpI_two (i := 3) (j := 6) rfl rfl (by kernel_rfl) S175.bx (by rfl) (by rfl) ?_ ?_
      · intro K hK
        have i1 := S175.k2
        go_simp
        go_wp2_with (go_at_call 29; (with_reducible refine i1.mono ?_); rintro e W179 ⟨G180, p181, rfl, S178⟩; clear i1 S175)
        refine wpI_two (i := 5) (j := 6) rfl rfl (by kernel_rfl) S178.bx (by rfl) (by rfl) ?_ ?_
        · intro K hK
          have i1 := S178.k3
          go_simp
          go_wp2_with (go_at_call 44; (with_reducible refine i1.mono ?_); rintro e W183 ⟨g184, rfl, S182⟩; clear i1 S178)
          refine wpI_only (i := 6) rfl (by kernel_rfl) S182.bx (by rfl) ?_
          intro K hK
          have S185 := S182.a7
          go_simp
          refine hK _ _ ?_
          clear hK K S182
          generalize W183.heap.size = b187 at S185 ⊢
          generalize W183.alloc (.cells #[.slice none 0 0] 47) = W186 at S185 ⊢
          obtain ⟨e7, f7, _⟩ := S185.d7 _ rfl
          obtain ⟨y188, e8, f8, ex⟩ := S185.stored
          refine wpI_only (i := 8) rfl (by kernel_rfl) S185.bx (by rfl) ?_
          intro K hK
          go_simp
          refine hK _ _ ?_
          clear hK K
          refine wpI_only (i := 9) rfl (by kernel_rfl) ex (by rfl) ?_
          intro K hK
          go_simp
          refine hK _ _ ?_
          clear hK K
          refine wpI_done y188.bx (by kernel_rfl) ?_ _
          exact ⟨rfl, _, _, _, _, _, rfl, y188⟩
        · intro K hK
          have S189 := S178.a7
          go_simp
          refine hK _ _ ?_
          clear hK K S178
          generalize W179.heap.size = b191 at S189 ⊢
          generalize W179.alloc (.cells #[.slice none 0 0] 47) = W190 at S189 ⊢
          refine wpI_only (i := 5) rfl (by kernel_rfl) S189.bx (by rfl) ?_
          intro K hK
          have i1 := S189.k3
          go_simp
          go_wp2_with (go_at_call 44; (with_reducible refine i1.mono ?_); rintro e W193 ⟨g194, rfl, S192⟩; clear i1 S189)
          obtain ⟨e7, f7, _⟩ := S192.d7 _ rfl
          obtain ⟨y195, e8, f8, ex⟩ := S192.stored
          refine wpI_only (i := 8) rfl (by kernel_rfl) S192.bx (by rfl) ?_
          intro K hK
          go_simp
          refine hK _ _ ?_
          clear hK K
          refine wpI_only (i := 9) rfl (by kernel_rfl) ex (by rfl) ?_
          intro K hK
          go_simp
          refine hK _ _ ?_
          clear hK K
          refine wpI_done y195.bx (by kernel_rfl) ?_ _
          exact ⟨rfl, _, _, _, _, _, rfl, y195⟩
      · intro K hK
        have S196 := S175.a7
        go_simp
        refine hK _ _ ?_
        clear hK K S175
        generalize W176.heap.size = b198 at S196 ⊢
        generalize W176.alloc (.cells #[.slice none 0 0] 47) = W197 at S196 ⊢
        refine wpI_only (i := 3) rfl (by kernel_rfl) S196.bx (by rfl) ?_
        intro K hK
        have i1 := S196.k2
        go_simp
        go_wp2_with (go_at_call 29; (with_reducible refine i1.mono ?_); rintro e W200 ⟨G201, p202, rfl, S199⟩; clear i1 S196)
        refine wpI_only (i := 5) rfl (by kernel_rfl) S199.bx (by rfl) ?_
        intro K hK
        have i1 := S199.k3
        go_simp
        go_wp2_with (go_at_call 44; (with_reducible refine i1.mono ?_); rintro e W204 ⟨g205, rfl, S203⟩; clear i1 S199)
        obtain ⟨e7, f7, _⟩ := S203.d7 _ rfl
        obtain ⟨y206, e8, f8, ex⟩ := S203.stored
        refine wpI_only (i := 8) rfl (by kernel_rfl) S203.bx (by rfl) ?_
        intro K hK
        go_simp
        refine hK _ _ ?_
        clear hK K
        refine wpI_only (i := 9) rfl (by kernel_rfl) ex (by rfl) ?_
        intro K hK
        go_simp
        refine hK _ _ ?_
        clear hK K
        refine wpI_done y206.bx (by kernel_rfl) ?_ _
        exact ⟨rfl, _, _, _, _, _, rfl, y206⟩
    · intro K hK
      have S207 := S172.a7
      go_simp
      refine hK _ _ ?_
      clear hK K S172
      generalize W173.heap.size = b209 at S207 ⊢
      generalize W173.alloc (.cells #[.slice none 0 0] 47) = W208 at S207 ⊢
      refine wpI_only (i := 1) rfl (by kernel_rfl) S207.bx (by rfl) ?_
      intro K hK
      have i1 := S207.k1
      go_simp
      go_wp2_with (go_at_call 28; (with_reducible refine i1.mono ?_); rintro e W211 ⟨g212, rfl, S210⟩; clear i1 S207)
      refine wpI_only (i := 3) rfl (by kernel_rfl) S210.bx (by rfl) ?_
      intro K hK
      have i1 := S210.k2
      go_simp
      go_wp2_with (go_at_call 29; (with_reducible refine i1.mono ?_); rintro e W214 ⟨G215, p216, rfl, S213⟩; clear i1 S210)
      refine wpI_only (i := 5) rfl (by kernel_rfl) S213.bx (by rfl) ?_
      intro K hK
      have i1 := S213.k3
      go_simp
      go_wp2_with (go_at_call 44; (with_reducible refine i1.mono ?_); rintro e W218 ⟨g219, rfl, S217⟩; clear i1 S213)
      obtain ⟨e7, f7, _⟩ := S217.d7 _ rfl
      obtain ⟨y220, e8, f8, ex⟩ := S217.stored
      refine wpI_only (i := 8) rfl (by kernel_rfl) S217.bx (by rfl) ?_
      intro K hK
      go_simp
      refine hK _ _ ?_
      clear hK K
      refine wpI_only (i := 9) rfl (by kernel_rfl) ex (by rfl) ?_
      intro K hK
      go_simp
      refine hK _ _ ?_
      clear hK K
      refine wpI_done y220.bx (by kernel_rfl) ?_ _
      exact ⟨rfl, _, _, _, _, _, rfl, y220⟩
end Go.Proofs.YtlcnciibjhcbiaaDoor
