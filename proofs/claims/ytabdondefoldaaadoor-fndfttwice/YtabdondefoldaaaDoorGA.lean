/- Two rows that meet, each number of the one with that of the other. -/
import Derived.Test.YtabdondefoldaaaDoorL4
namespace Go.Proofs.YtabdondefoldaaaDoor
open Go.RowKit

/-- Of what was there nothing but the blocks D has turned. -/
structure Kdd (D : Nat → Prop) (w w' : World) : Prop where
  os : w'.os = w.os
  tape : w'.tape = w.tape
  output : w'.output = w.output
  size : w.heap.size ≤ w'.heap.size
  block : ∀ k, k < w.heap.size → ¬ D k → w'.heap[k]? = w.heap[k]?

theorem Kdd.refl (D : Nat → Prop) (w : World) : Kdd D w w := ⟨rfl, rfl, rfl, Nat.le_refl _, fun _ _ _ => rfl⟩
theorem Kdd.put {D : Nat → Prop} {g : Nat} {w w' : World} (h : Kdd D w w') (hg : D g) (j : Nat) (u : Value) : Kdd D w (w'.setCell ⟨g, j, none⟩ u) :=
  ⟨h.os, h.tape, h.output, by simpa [World.setCell] using h.size, fun k hk hd => (Below.heap_setCell _ _ _ _ (fun e => hd (by rw [e]; exact hg))).trans (h.block k hk hd)⟩
theorem Kdd.drew {D : Nat → Prop} {w w' : World} (h : Kdd D w w') : Kdd D w w'.drew := ⟨h.os, h.tape, h.output, h.size, h.block⟩
theorem Kdd.below {D : Nat → Prop} {w w1 w2 : World} (h : Kdd D w w1) (hb : Below w1.heap.size w1 w2) : Kdd D w w2 :=
  ⟨hb.os.trans h.os, hb.tape.trans h.tape, hb.output.trans h.output, Nat.le_trans h.size hb.size, fun k hk hd => (hb.block k (Nat.lt_of_lt_of_le hk h.size)).trans (h.block k hk hd)⟩
theorem Kdd.trans {D : Nat → Prop} {w w1 w2 : World} (h : Kdd D w w1) (h' : Kdd D w1 w2) : Kdd D w w2 :=
  ⟨h'.os.trans h.os, h'.tape.trans h.tape, h'.output.trans h.output, Nat.le_trans h.size h'.size, fun k hk hd => (h'.block k (Nat.lt_of_lt_of_le hk h.size) hd).trans (h.block k hk hd)⟩
theorem Kdd.cell {D : Nat → Prop} {w w' : World} (h : Kdd D w w') {b o : Nat} (hb : b < w.heap.size) (hd : ¬ D b) : w'.cell? ⟨b, o, none⟩ = w.cell? ⟨b, o, none⟩ := by
  unfold World.cell?
  rw [h.block b hb hd]

/-- The turning in a block of its own. -/
structure Bx (X : World) (g : Nat) (p sh : Int) (b0 off0 q cap : Nat) : Prop where
  c0 : X.cell? ⟨g, 0, none⟩ = some (.int .i64 p)
  c1 : X.cell? ⟨g, 1, none⟩ = some (.int .i64 sh)
  c2 : X.cell? ⟨g, 2, none⟩ = some (.slice (some ⟨b0, off0, none⟩) q cap)

theorem Bx.block {X X' : World} {g b0 off0 q cap : Nat} {p sh : Int} (h : Bx X g p sh b0 off0 q cap) (e : X'.heap[g]? = X.heap[g]?) : Bx X' g p sh b0 off0 q cap :=
  ⟨(World.cell?_of_block (w := X) e).trans h.c0, (World.cell?_of_block (w := X) e).trans h.c1, (World.cell?_of_block (w := X) e).trans h.c2⟩

theorem Bx.call {X X' : World} {g b0 off0 q cap : Nat} {p sh : Int} (h : Bx X g p sh b0 off0 q cap) (hb : Below X.heap.size X X') (hg : g < X.heap.size) : Bx X' g p sh b0 off0 q cap := h.block (hb.block g hg)

theorem Bx.put {X : World} {g g' b0 off0 q cap : Nat} {p sh : Int} (h : Bx X g p sh b0 off0 q cap) (hne : g ≠ g') (j : Nat) (u : Value) : Bx (X.setCell ⟨g', j, none⟩ u) g p sh b0 off0 q cap := h.block (Below.heap_setCell _ _ _ _ hne)

theorem own_other {w : World} {B n g1 g2 c : Nat} {xs : List Value} (h : w.ownsRow B 3 1 (.slice (some ⟨g2, 0, none⟩) n c) n xs) (hne : g1 ≠ g2) (j : Nat) (u : Value) : (w.setCell ⟨g1, j, none⟩ u).ownsRow B 3 1 (.slice (some ⟨g2, 0, none⟩) n c) n xs := by
  refine ⟨h.1, ?_⟩
  rcases h.2 with h' | ⟨g', cap', cur, h', hb', hg', rest⟩
  · exact .inl h'
  · have e : g2 = g' := by
      injection h' with e1
      injection e1 with e2
      injection e2
    subst e
    exact .inr ⟨g2, cap', cur, h', hb', (Below.heap_setCell _ _ _ _ (Ne.symm hne)).trans hg', rest⟩

theorem e_step {F f : Nat → Int} {k : Nat} {x : Int} (hx : x = F k) (i : Nat) : (if i = k then x else if i < k then F i else f i) = if i < k + 1 then F i else f i := by
  by_cases h : i = k
  · subst h; rw [if_pos rfl, if_pos (by omega), hx]
  · rw [if_neg h]
    by_cases h2 : i < k
    · rw [if_pos h2, if_pos (by omega)]
    · rw [if_neg h2, if_neg (by omega)]

set_option maxRecDepth 20000 in
set_option maxHeartbeats 8000000 in
theorem meetR {w : World} {B n c1 c2 g1 g2 t q cap b0 off0 : Nat} {p sh T : Int} {f h : Nat → Int}
    (h1 : w.ownsRow B 3 1 (.slice (some ⟨g1, 0, none⟩) n c1) n (ils f n)) (h2 : w.ownsRow B 3 1 (.slice (some ⟨g2, 0, none⟩) n c2) n (ils h n)) (hne : g1 ≠ g2) (hn : n ≤ 1048576)
    (hf : ∀ i, i < n → 0 ≤ f i ∧ f i < p) (hh : ∀ i, i < n → 0 ≤ h i ∧ h i < p) (hs : 0 ≤ sh ∧ sh < p) (hT : 0 ≤ T ∧ T < p) (hp : 1 ≤ p ∧ p ≤ 998244353) (ht : t < q) (hb1 : b0 ≠ g1) (hb2 : b0 ≠ g2) (hb0 : b0 < w.heap.size) (hc : w.cell? ⟨b0, off0 + t, none⟩ = some (.int .i64 T)) :
    Calls Tryd.prog 19 #[.agg #[.int .i64 p, .int .i64 sh, .slice (some ⟨b0, off0, none⟩) q cap], .slice (some ⟨g1, 0, none⟩) n c1, .slice (some ⟨g2, 0, none⟩) n c2, .int .i64 t] w fun e w' => e = .returned (.tuple #[.slice (some ⟨g1, 0, none⟩) n c1, .slice (some ⟨g2, 0, none⟩) n c2]) ∧ w'.ownsRow B 3 1 (.slice (some ⟨g1, 0, none⟩) n c1) n (ils (fun i => (f i + h i) % p * sh % p) n) ∧ w'.ownsRow B 3 1 (.slice (some ⟨g2, 0, none⟩) n c2) n (ils (fun i => (f i - h i + p) * T % p) n) ∧ Kdd (fun k => k = g1 ∨ k = g2) w w' := by
  have l1 := (World.ownsRow.lt h1 g1 rfl).2
  have l2 := (World.ownsRow.lt h2 g2 rfl).2
  have bl := below_one w (.cells #[.int .i64 p, .int .i64 sh, .slice (some ⟨b0, off0, none⟩) q cap] 44)
  have H1 : Hid _ := own_below h1 bl
  have H2 : Hid _ := own_below h2 bl
  have HK : Hid (Kdd (fun k => k = g1 ∨ k = g2) w (w.alloc (.cells #[.int .i64 p, .int .i64 sh, .slice (some ⟨b0, off0, none⟩) q cap] 44))) := (Kdd.refl _ _).below bl
  have HBX : Hid (Bx (w.alloc (.cells #[.int .i64 p, .int .i64 sh, .slice (some ⟨b0, off0, none⟩) q cap] 44)) w.heap.size p sh b0 off0 q cap) := ⟨by simp, by simp, by simp⟩
  have HSZ : Hid (w.heap.size < (w.alloc (.cells #[.int .i64 p, .int .i64 sh, .slice (some ⟨b0, off0, none⟩) q cap] 44)).heap.size) := by show _ < _; simp
  have HF : Hid (∀ i, i < n → 0 ≤ f i ∧ f i < p) := hf
  have HH : Hid (∀ i, i < n → 0 ≤ h i ∧ h i < p) := hh
  have HC : Hid (w.cell? ⟨b0, off0 + t, none⟩ = some (.int .i64 T)) := hc
  have HNE : Hid (g1 ≠ g2) := hne
  have HG1 : Hid (w.heap.size ≠ g1) := by show _ ≠ _; omega
  have HG2 : Hid (w.heap.size ≠ g2) := by show _ ≠ _; omega
  have HB : Hid (¬ (b0 = g1 ∨ b0 = g2)) := by show ¬ _; omega
  clear h1 h2 bl hf hh hc hne l1 l2 hb1 hb2
  go_enter Tryd.func19, Tryd.ntmps19
  go_wp2
  go_loopw [10, 13] (fun _ i wr => ∃ k : Nat, i = .int .i64 k ∧ k ≤ n ∧ Hid (wr.ownsRow B 3 1 (.slice (some ⟨g1, 0, none⟩) n c1) n (ils (fun i => if i < k then (f i + h i) % p * sh % p else f i) n) ∧ wr.ownsRow B 3 1 (.slice (some ⟨g2, 0, none⟩) n c2) n (ils (fun i => if i < k then (f i - h i + p) * T % p else h i) n) ∧ Kdd (fun k => k = g1 ∨ k = g2) w wr ∧ Bx wr w.heap.size p sh b0 off0 q cap ∧ w.heap.size < wr.heap.size)) (fun _ i _ => n - (intOf i).toNat)
  case atStart => exact ⟨0, rfl, by omega, by rw [ils_congr (g := f) (fun i _ => if_neg (Nat.not_lt_zero i))]; exact H1.out, by rw [ils_congr (g := h) (fun i _ => if_neg (Nat.not_lt_zero i))]; exact H2.out, HK.out, HBX.out, HSZ.out⟩
  case round =>
    obtain ⟨k, rfl, hk, hrel⟩ := hrel
    obtain ⟨r1, r2, kd, bx, sz⟩ := hrel.out
    by_cases h3 : k < n
    · have R1 : Hid _ := r1
      have R2 : Hid _ := r2
      have KD0 : Hid (Kdd (fun k => k = g1 ∨ k = g2) w wr) := kd
      have BX0 : Hid (Bx wr.drew w.heap.size p sh b0 off0 q cap) := ⟨bx.c0, bx.c1, bx.c2⟩
      have SZ : Hid (w.heap.size < wr.heap.size) := sz
      obtain ⟨X, hX⟩ : ∃ X, X = f k := ⟨_, rfl⟩
      obtain ⟨Y, hY⟩ : ∃ Y, Y = h k := ⟨_, rfl⟩
      have d1 := r1.cellAt k (by omega)
      rw [ils_get h3, if_neg (by omega), ← hX] at d1
      have d2 := r2.cellAt k (by omega)
      rw [ils_get h3, if_neg (by omega), ← hY] at d2
      have hcall : Hid (∀ W, Kdd (fun k => k = g1 ∨ k = g2) w W → Calls Tryd.prog 29 #[.agg #[.int .i64 p, .int .i64 sh, .slice (some ⟨b0, off0, none⟩) q cap], .int .i64 X, .int .i64 Y, .int .i64 t] W fun e w' => e = .returned (.tuple #[.int .i64 ((X + Y) % p * sh % p), .int .i64 ((X - Y + p) * T % p)]) ∧ Below W.heap.size W w') := fun W hW => meet_any (by rw [hX]; exact HF.out k h3) (by rw [hY]; exact HH.out k h3) hs hT hp ht (Nat.lt_of_lt_of_le hb0 hW.size) ((hW.cell hb0 HB.out).trans HC.out)
      obtain ⟨X2, hX2⟩ : ∃ X2, X2 = (X + Y) % p * sh % p := ⟨_, rfl⟩
      obtain ⟨Y2, hY2⟩ : ∃ Y2, Y2 = (X - Y + p) * T % p := ⟨_, rfl⟩
      rw [← hX2, ← hY2] at hcall
      have HX2 : Hid (X2 = (fun i => (f i + h i) % p * sh % p) k) := by show X2 = _; rw [hX2, hX, hY]
      have HY2 : Hid (Y2 = (fun i => (f i - h i + p) * T % p) k) := by show Y2 = _; rw [hY2, hX, hY]
      clear r1 r2 kd bx sz hrel hX hY hX2 hY2
      go_upto_region 4 with fail
      refine wp_region_any (by kernel_rfl) ?_
      change wpAny _ _ _ _ _ _ _ (World.drew _)
      refine wpI_any (I := fun X => Bx X w.heap.size p sh b0 off0 q cap) _ _ _ _ ?_
      refine wpI_take (i := 0) (v := ?_) rfl (by kernel_rfl) (by kernel_rfl) (by kernel_rfl) (fun _ _ _ h => h) ⟨by rfl, ?_⟩ ?_
      rotate_left
      · intro X hI; go_simp; with_reducible rfl
      refine wpI_take (i := 1) (v := ?_) rfl (by kernel_rfl) (by kernel_rfl) (by kernel_rfl) (fun _ _ _ h => h) ⟨by rfl, ?_⟩ ?_
      rotate_left
      · intro X hI; go_simp; with_reducible rfl
      refine wpI_take (i := 2) (v := ?_) rfl (by kernel_rfl) (by kernel_rfl) (by kernel_rfl) (fun _ _ _ h => h) ⟨by rfl, ?_⟩ ?_
      rotate_left
      · intro X hI; go_simp; with_reducible rfl
      refine wpI_take (i := 3) (v := ?_) rfl (by kernel_rfl) (by kernel_rfl) (by kernel_rfl) (fun _ _ _ h => h) ⟨by rfl, ?_⟩ ?_
      rotate_left
      · intro X hI; go_simp; with_reducible rfl
      refine wpI_take (i := 4) (v := ?_) rfl (by kernel_rfl) (by kernel_rfl) (by kernel_rfl) (fun _ _ _ h => h) ⟨by rfl, ?_⟩ ?_
      rotate_left
      · intro X hI; obtain ⟨e0, e1, e2⟩ := hI; go_simp; with_reducible rfl
      refine wpI_take (i := 5) (v := ?_) rfl (by kernel_rfl) (by kernel_rfl) (by kernel_rfl) (fun _ _ _ h => h) ⟨by rfl, ?_⟩ ?_
      rotate_left
      · intro X hI; go_simp; with_reducible rfl
      refine wpI_take (i := 6) (v := ?_) rfl (by kernel_rfl) (by kernel_rfl) (by kernel_rfl) (fun _ _ _ h => h) ⟨by rfl, ?_⟩ ?_
      rotate_left
      · intro X hI; go_simp; with_reducible rfl
      refine wpI_take (i := 7) (v := ?_) rfl (by kernel_rfl) (by kernel_rfl) (by kernel_rfl) (fun _ _ _ h => h) ⟨by rfl, ?_⟩ ?_
      rotate_left
      · intro X hI; go_simp; with_reducible rfl
      refine wpI_take (i := 9) (v := ?_) rfl (by kernel_rfl) (by kernel_rfl) (by kernel_rfl) (fun _ _ _ h => h) ⟨by rfl, ?_⟩ ?_
      rotate_left
      · intro X hI; go_simp; with_reducible rfl
      refine wpI_take (i := 10) (v := ?_) rfl (by kernel_rfl) (by kernel_rfl) (by kernel_rfl) (fun _ _ _ h => h) ⟨by rfl, ?_⟩ ?_
      rotate_left
      · intro X hI; go_simp; with_reducible rfl
      refine wpI_take (i := 11) (v := ?_) rfl (by kernel_rfl) (by kernel_rfl) (by kernel_rfl) (fun _ _ _ h => h) ⟨by rfl, ?_⟩ ?_
      rotate_left
      · intro X hI; go_simp; with_reducible rfl
      refine wpI_take (i := 13) (v := ?_) rfl (by kernel_rfl) (by kernel_rfl) (by kernel_rfl) (fun _ _ _ h => h) ⟨by rfl, ?_⟩ ?_
      rotate_left
      · intro X hI; go_simp; with_reducible rfl
      refine wpI_two (i := 8) (j := 12) rfl rfl (by kernel_rfl) BX0.out (by rfl) (by rfl) ?_ ?_
      · intro K hK
        go_simp
        refine hK _ _ ?_
        refine wpI_only (i := 12) rfl (by kernel_rfl) BX0.out (by rfl) ?_
        intro K hK
        go_simp
        refine hK _ _ ?_
        refine wpI_only (i := 14) rfl (by kernel_rfl) BX0.out (by rfl) ?_
        intro K hK
        go_simp
        go_wp2_with (go_at_call 29; refine (hcall.out _ (KD0.out.drew)).mono ?_; rintro e w1x ⟨rfl, hbx⟩)
        have r1 := own_below (own_drew R1.out) hbx
        have r2 := own_below (own_drew R2.out) hbx
        have kx : Kdd (fun k => k = g1 ∨ k = g2) w w1x := KD0.out.drew.below hbx
        have bx : Bx w1x w.heap.size p sh b0 off0 q cap := BX0.out.call hbx SZ.out
        have z1 := r1.frozenAt k
        have c1 := r1.cellAt k (by omega)
        rw [ils_get h3] at c1
        have s1 := (r1.stored k (.int .i64 X2)).1
        rw [ils_put] at s1
        have r2b := own_other r2 HNE.out k (.int .i64 X2)
        have z2 := r2b.frozenAt k
        have c2 := r2b.cellAt k (by omega)
        rw [ils_get h3] at c2
        have s2 := (r2b.stored k (.int .i64 Y2)).1
        rw [ils_put] at s2
        have s1b := own_other s1 (Ne.symm HNE.out) k (.int .i64 Y2)
        have ky := (kx.put (.inl rfl) k (.int .i64 X2)).put (.inr rfl) k (.int .i64 Y2)
        have by1 := bx.put HG1.out k (.int .i64 X2)
        have by2 := by1.put HG2.out k (.int .i64 Y2)
        have SF : Hid _ := And.intro s1b (And.intro s2 (And.intro ky by2))
        clear s1 s2 s1b ky r1 r2 r2b kx by2
        refine wpI_take (i := 15) (v := ?_) rfl (by kernel_rfl) (by kernel_rfl) (by kernel_rfl) (fun _ _ _ h => h) ⟨by rfl, ?_⟩ ?_
        rotate_left
        · intro X hI; go_simp; with_reducible rfl
        refine wpI_take (i := 16) (v := ?_) rfl (by kernel_rfl) (by kernel_rfl) (by kernel_rfl) (fun _ _ _ h => h) ⟨by rfl, ?_⟩ ?_
        rotate_left
        · intro X hI; go_simp; with_reducible rfl
        refine wpI_take (i := 17) (v := ?_) rfl (by kernel_rfl) (by kernel_rfl) (by kernel_rfl) (fun _ _ _ h => h) ⟨by rfl, ?_⟩ ?_
        rotate_left
        · intro X hI; go_simp; with_reducible rfl
        refine wpI_take (i := 18) (v := ?_) rfl (by kernel_rfl) (by kernel_rfl) (by kernel_rfl) (fun _ _ _ h => h) ⟨by rfl, ?_⟩ ?_
        rotate_left
        · intro X hI; go_simp; with_reducible rfl
        refine wpI_only (i := 19) rfl (by kernel_rfl) bx (by rfl) ?_
        intro K hK
        go_simp
        refine hK _ _ ?_
        refine wpI_take (i := 20) (v := ?_) rfl (by kernel_rfl) (by kernel_rfl) (by kernel_rfl) (fun _ _ _ h => h) ⟨by rfl, ?_⟩ ?_
        rotate_left
        · intro X hI; go_simp; with_reducible rfl
        refine wpI_only (i := 21) rfl (by kernel_rfl) by1 (by rfl) ?_
        intro K hK
        go_simp
        refine hK _ _ ?_
        refine wpI_done SF.out.2.2.2 (by kernel_rfl) ?_ _
        go_wp2
        go_roundw
        case rel =>
          refine ⟨k + 1, by go_num, by omega, ?_, ?_, SF.out.2.2.1, SF.out.2.2.2, Nat.le_trans SZ.out (by have := hbx.size; simpa [World.setCell] using this)⟩
          · have := SF.out.1
            have e := ils_congr (n := n) (f := fun i => if i = k then X2 else if i < k then (f i + h i) % p * sh % p else f i) (g := fun i => if i < k + 1 then (f i + h i) % p * sh % p else f i) (fun i _ => e_step (F := fun i => (f i + h i) % p * sh % p) (f := f) HX2.out i)
            rw [e] at this
            exact this
          · have := SF.out.2.1
            have e := ils_congr (n := n) (f := fun i => if i = k then Y2 else if i < k then (f i - h i + p) * T % p else h i) (g := fun i => if i < k + 1 then (f i - h i + p) * T % p else h i) (fun i _ => e_step (F := fun i => (f i - h i + p) * T % p) (f := h) HY2.out i)
            rw [e] at this
            exact this
        case measure => simp [intOf]; omega
      · intro K hK
        go_simp
        refine hK _ _ ?_
        refine wpI_only (i := 8) rfl (by kernel_rfl) BX0.out (by rfl) ?_
        intro K hK
        go_simp
        refine hK _ _ ?_
        refine wpI_only (i := 14) rfl (by kernel_rfl) BX0.out (by rfl) ?_
        intro K hK
        go_simp
        go_wp2_with (go_at_call 29; refine (hcall.out _ (KD0.out.drew)).mono ?_; rintro e w1x ⟨rfl, hbx⟩)
        have r1 := own_below (own_drew R1.out) hbx
        have r2 := own_below (own_drew R2.out) hbx
        have kx : Kdd (fun k => k = g1 ∨ k = g2) w w1x := KD0.out.drew.below hbx
        have bx : Bx w1x w.heap.size p sh b0 off0 q cap := BX0.out.call hbx SZ.out
        have z1 := r1.frozenAt k
        have c1 := r1.cellAt k (by omega)
        rw [ils_get h3] at c1
        have s1 := (r1.stored k (.int .i64 X2)).1
        rw [ils_put] at s1
        have r2b := own_other r2 HNE.out k (.int .i64 X2)
        have z2 := r2b.frozenAt k
        have c2 := r2b.cellAt k (by omega)
        rw [ils_get h3] at c2
        have s2 := (r2b.stored k (.int .i64 Y2)).1
        rw [ils_put] at s2
        have s1b := own_other s1 (Ne.symm HNE.out) k (.int .i64 Y2)
        have ky := (kx.put (.inl rfl) k (.int .i64 X2)).put (.inr rfl) k (.int .i64 Y2)
        have by1 := bx.put HG1.out k (.int .i64 X2)
        have by2 := by1.put HG2.out k (.int .i64 Y2)
        have SF : Hid _ := And.intro s1b (And.intro s2 (And.intro ky by2))
        clear s1 s2 s1b ky r1 r2 r2b kx by2
        refine wpI_take (i := 15) (v := ?_) rfl (by kernel_rfl) (by kernel_rfl) (by kernel_rfl) (fun _ _ _ h => h) ⟨by rfl, ?_⟩ ?_
        rotate_left
        · intro X hI; go_simp; with_reducible rfl
        refine wpI_take (i := 16) (v := ?_) rfl (by kernel_rfl) (by kernel_rfl) (by kernel_rfl) (fun _ _ _ h => h) ⟨by rfl, ?_⟩ ?_
        rotate_left
        · intro X hI; go_simp; with_reducible rfl
        refine wpI_take (i := 17) (v := ?_) rfl (by kernel_rfl) (by kernel_rfl) (by kernel_rfl) (fun _ _ _ h => h) ⟨by rfl, ?_⟩ ?_
        rotate_left
        · intro X hI; go_simp; with_reducible rfl
        refine wpI_take (i := 18) (v := ?_) rfl (by kernel_rfl) (by kernel_rfl) (by kernel_rfl) (fun _ _ _ h => h) ⟨by rfl, ?_⟩ ?_
        rotate_left
        · intro X hI; go_simp; with_reducible rfl
        refine wpI_only (i := 19) rfl (by kernel_rfl) bx (by rfl) ?_
        intro K hK
        go_simp
        refine hK _ _ ?_
        refine wpI_take (i := 20) (v := ?_) rfl (by kernel_rfl) (by kernel_rfl) (by kernel_rfl) (fun _ _ _ h => h) ⟨by rfl, ?_⟩ ?_
        rotate_left
        · intro X hI; go_simp; with_reducible rfl
        refine wpI_only (i := 21) rfl (by kernel_rfl) by1 (by rfl) ?_
        intro K hK
        go_simp
        refine hK _ _ ?_
        refine wpI_done SF.out.2.2.2 (by kernel_rfl) ?_ _
        go_wp2
        go_roundw
        case rel =>
          refine ⟨k + 1, by go_num, by omega, ?_, ?_, SF.out.2.2.1, SF.out.2.2.2, Nat.le_trans SZ.out (by have := hbx.size; simpa [World.setCell] using this)⟩
          · have := SF.out.1
            have e := ils_congr (n := n) (f := fun i => if i = k then X2 else if i < k then (f i + h i) % p * sh % p else f i) (g := fun i => if i < k + 1 then (f i + h i) % p * sh % p else f i) (fun i _ => e_step (F := fun i => (f i + h i) % p * sh % p) (f := f) HX2.out i)
            rw [e] at this
            exact this
          · have := SF.out.2.1
            have e := ils_congr (n := n) (f := fun i => if i = k then Y2 else if i < k then (f i - h i + p) * T % p else h i) (g := fun i => if i < k + 1 then (f i - h i + p) * T % p else h i) (fun i _ => e_step (F := fun i => (f i - h i + p) * T % p) (f := h) HY2.out i)
            rw [e] at this
            exact this
        case measure => simp [intOf]; omega
    · obtain rfl : k = n := by omega
      have S1 : Hid _ := r1
      have S2 : Hid _ := r2
      have S3 : Hid _ := kd
      clear r1 r2 kd bx sz hrel
      go_wp2
      refine bodyPost_ret (v := .tuple #[.slice (some ⟨g1, 0, none⟩) k c1, .slice (some ⟨g2, 0, none⟩) k c2]) (by simp [results, Tryd.results19, go_sem]) rfl ?_
      refine ⟨rfl, ?_, ?_, S3.out⟩
      · have := S1.out
        rw [ils_congr (fun i hi => if_pos hi)] at this
        exact this
      · have := S2.out
        rw [ils_congr (fun i hi => if_pos hi)] at this
        exact this
end Go.Proofs.YtabdondefoldaaaDoor
