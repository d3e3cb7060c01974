/- Push: the model. -/
import Derived.Test.YtphnoghnoacfiaaPF
import Derived.Deep.Cut
namespace Go.Proofs.Ytphnoghnoacfiaa
open Go.RowKit

theorem wpList_app {P : Program} (w : World) {ops : Array Oper} {rest : List Oper} {o : Oper} {a : Act} {Q : Exit → Act → World → Prop} (hgd : o.guard = none) (s x : Operand) (t : TypeId)
    (ho : o.op = .call { callee := .builtin .append, args := #[s, x], argTypes := #[t, t] })
    (base : Nat) (e : TypeId) (i : TypeInfo) (z : Value) (size bytes : Nat) (ht : P.underlying t = some (.slice e)) (hi : P.info? e = some i) (hz : i.zero = some z)
    (hsize : i.size = size) (hby : i.bytes = bytes) (hzs : z.cells.size = size) (hsz : 0 < size)
    (v : Value) (n : Nat) (xs : List Value) (hs : a.eval s = v) (hown : w.ownsRow base e size v n xs)
    (ad : Addr) (m c : Nat) (news : List Value) (hx : a.eval x = .slice (some ad) m c) (hl : news.length = m * size) (hnews : ∀ j u, news[j]? = some u → w.cell? (ad.add j) = some u) (h1 : ∀ u ∈ news, u.oneCell' = true)
    (h63 : n + m ≤ maxLen) (hbytes : (n + m) * bytes ≤ 140737488355328) (hbase : base ≤ w.heap.size) (hm : 0 < m)
    (h : ∀ v' w', w'.ownsRow base e size v' (n + m) (xs ++ news) → w.grownBy w' v.ownBlock → (v'.ownBlock = v.ownBlock ∨ (v'.ownBlock = some w.heap.size ∧ Below w.heap.size w w')) → wpList P ops Q rest (a.put o.dst v') w') : wpList P ops Q (o :: rest) a w :=
  wpList_plain hgd fun _ hK => wp_app w s x t ho base e i z size bytes ht hi hz hsize hby hzs hsz v n xs hs hown ad m c news hx hl hnews h1 h63 hbytes hbase hm fun v' w' h2 h3 h4 => hK _ _ (h v' w' h2 h3 h4)

/-- The cells put behind nothing. -/
theorem app_cells {X : World} {o : Oper} {a : Act} {K : Act → World → Prop} {Q : Exit → Act → World → Prop} (s x : Operand) (ho : o.op = .call { callee := .builtin .append, args := #[s, x], argTypes := #[22, 22] }) {e n bb off cap : Nat} {cs : Nat → Int} (he : X.ownsRow e 3 1 (.slice (some ⟨e, 0, none⟩) 0 0) 0 []) (h0 : 0 < n) (hn : n ≤ 512) (hc : ∀ k, k < n → X.cell? ⟨bb, off + k, none⟩ = some (.int .i64 (cs k)))
    (hs : a.eval s = .slice (some ⟨e, 0, none⟩) 0 0) (hx : a.eval x = .slice (some ⟨bb, off, none⟩) n cap)
    (h : ∀ v' X', X'.ownsRow e 3 1 v' n (ils cs n) → X.grownBy X' (some e) → (v'.ownBlock = some e ∨ v'.ownBlock = some X.heap.size) → K (a.put o.dst v') X') : o.wp Try.prog a X K Q := by
  obtain ⟨i0, hi, hz0, hz1, hz2⟩ := info_parts Try.info3
  refine wp_app (P := Try.prog) X s x 22 ho e 3 i0 (.int .i64 0) 1 8 Try.underlying22 hi hz0 hz1 hz2 rfl (by decide) _ 0 [] hs he ⟨bb, off, none⟩ n cap (ils cs n) hx (by rw [ils_length, Nat.mul_one]) (fun j u hj => ?_) (ils_one _ _) (by unfold maxLen; omega) (by omega) (Nat.le_of_lt (World.ownsRow.lt he e rfl).2) h0 (fun v' X' h1 h2 h3 => h v' X' (by simpa using h1) h2 (h3.imp id And.left))
  have hjn : j < n := by
    rcases Nat.lt_or_ge j n with h | h
    · exact h
    · rw [List.getElem?_eq_none (by rw [ils_length]; exact h)] at hj; cases hj
  rw [ils_get hjn] at hj
  injection hj with hj
  subst hj
  rw [add_at]
  exact hc j hjn

set_option maxRecDepth 20000 in
set_option maxHeartbeats 8000000 in
theorem sPush_good {w : World} {cv lv : Value} {n N o : Nat} {cs xs : Nat → Int} (hc : Il w cv n cs) (hl : Il w lv N xs) (h : GPu n N cs xs (o : Int)) :
    Calls Try.prog 6 #[.agg #[cv, .int .i64 (o : Int)], lv] w fun e w' => Ppu w w' e n (rcl n o cs xs N) (plc n o N : Nat) N (rtl n o cs xs) true := by
  obtain ⟨i0, hi, hz0, hz1, hz2⟩ := info_parts Try.info3
  obtain ⟨⟨h1, h2, h3⟩, h4⟩ := h
  have hn := h1.1
  have hN := h4.1
  have h0 : 0 < n := by omega
  have ho : o < n := by omega
  have b1 := below_one w (.cells #[cv, .int .i64 (o : Int)] 26)
  have R1 := Rg.new w cv (.int .i64 (o : Int)) 26
  have s1 : (w.alloc (.cells #[cv, .int .i64 (o : Int)] 26)).heap.size = w.heap.size + 1 := by simp
  generalize hW1 : w.alloc (.cells #[cv, .int .i64 (o : Int)] 26) = W1 at *
  have b2 := below_one W1 (.cells #[.slice none 0 0, .int .i64 0] 26)
  have R2 := Rg.new W1 (.slice none 0 0) (.int .i64 0) 26
  have s2 : (W1.alloc (.cells #[.slice none 0 0, .int .i64 0] 26)).heap.size = w.heap.size + 2 := by simp [s1]
  generalize hW2 : W1.alloc (.cells #[.slice none 0 0, .int .i64 0] 26) = W2 at *
  have b3 := below_one W2 (.cells #[] 3)
  have O3 := own_empty W2 3 1
  have s3 : (W2.alloc (.cells #[] 3)).heap.size = w.heap.size + 3 := by simp [s2]
  generalize hW3 : W2.alloc (.cells #[] 3) = W3 at *
  rw [s1] at R2
  rw [s2] at O3
  have b23 := bstep b2 b3
  have CI : Hid (Il W3 cv n cs) := (hc.below b1).below b23
  have LI : Hid (Il W3 lv N xs) := (hl.below b1).below b23
  have q1 : Hid (Rg W3 w.heap.size cv (.int .i64 (o : Int))) := R1.call b23
  have PR : Hid (Pre w W3) := ⟨R2.call b3, own_base O3 (by omega), bstep b1 b23⟩
  have S3 : Hid (W3.heap.size = w.heap.size + 3) := s3
  have i1 := sRing_any CI.out (by omega) (o : Int)
  rw [decide_eq_true ⟨h1, h2, h3⟩] at i1
  have H4 : Hid (Sig N xs) := h4
  obtain ⟨ao, cap, rfl, hcap, hcc⟩ := hc
  obtain ⟨lo, lc, rfl, hlc, hcl⟩ := hl
  obtain ⟨bb, off, rfl, hlt, hcell⟩ := hcc h0
  have CK : Hid (∀ X, Below w.heap.size w X → ∀ k, k < n → X.cell? ⟨bb, off + k, none⟩ = some (.int .i64 (cs k))) := fun X hX k hk => (hX.cell (p := ⟨bb, off + k, none⟩) hlt).trans (hcell k hk)
  have LK : Hid (0 < N → ∃ b off, lo = some ⟨b, off, none⟩ ∧ ∀ X, Below w.heap.size w X → ∀ k, k < N → X.cell? ⟨b, off + k, none⟩ = some (.int .i64 (xs k))) := fun hN0 => by
    obtain ⟨b, off, e, hb, hh⟩ := hcl hN0
    exact ⟨b, off, e, fun X hX k hk => (hX.cell (p := ⟨b, off + k, none⟩) hb).trans (hh k hk)⟩
  clear hcc hcl hcell b1 b2 b3 b23 R1 R2 O3 h1 h4
  go_enter Try.func6, Try.ntmps6
  go_upto_region 2 with fail
  clear hW1 hW2 hW3 s1 s2 s3
  have c0 := q1.out.c0
  have c1 := q1.out.c1
  go_upto_region 4 with (first
    | (go_at_call 19; (with_reducible refine i1.mono ?_); rintro e w3 ⟨rfl, hb3⟩; have PR : Hid (Pre w w3) := PR.out.below hb3; have SZ : Hid (w.heap.size + 3 ≤ w3.heap.size) := (by have := hb3.size; have := S3.out; show w.heap.size + 3 ≤ w3.heap.size; omega); have LI : Hid (Il w3 (.slice lo N lc) N xs) := LI.out.below hb3; have q1 : Hid (Rg w3 w.heap.size (.slice (some ⟨bb, off, none⟩) n cap) (.int .i64 (o : Int))) := q1.out.call hb3; have i2 := sSig_any LI.out (by omega); rw [decide_eq_true H4.out] at i2; clear hb3)
    | (go_at_call 20; (with_reducible refine i2.mono ?_); rintro e w' ⟨rfl, hw⟩; obtain rfl := hw.symm))
  clear i1 i2 c0 c1 CI LI
  go_cut [8] from 10 (fun p wx => ∃ g c2, p = .pointer (some ⟨g, 0, none⟩) ∧ Hid (Sp w wx g c2 (.slice (some ⟨w.heap.size + 2, 0, none⟩) 0 0) n 0 cs (rtl n o cs xs) o))
  case first =>
    refine wp_region_any (by kernel_rfl) ?_
    change wpAny _ _ _ _ _ _ _ (World.drew _)
    have P0 : Hid (Pre w w3.drew) := PR.out.below (Below.refl _ _).drew
    have l0 : Rg w3.drew w.heap.size (.slice (some ⟨bb, off, none⟩) n cap) (.int .i64 (o : Int)) ∧ True := ⟨q1.out.call (Below.refl _ _).drew, trivial⟩
    have Z0 : Hid (w.heap.size + 3 ≤ w3.drew.heap.size) := SZ.out
    generalize w3.drew = X0 at *
    refine wpI_any (I := fun X => Rg X w.heap.size (.slice (some ⟨bb, off, none⟩) n cap) (.int .i64 (o : Int)) ∧ True) _ _ _ _ ?_
    refine wpI_take (i := 1) (v := ?_) rfl (by kernel_rfl) (by kernel_rfl) (by kernel_rfl) (fun _ _ _ h => h) ⟨by rfl, ?_⟩ ?_
    rotate_left
    · intro X hI; go_simp; with_reducible rfl
    refine wpI_take (i := 2) (v := ?_) rfl (by kernel_rfl) (by kernel_rfl) (by kernel_rfl) (fun _ _ _ h => h) ⟨by rfl, ?_⟩ ?_
    rotate_left
    · intro X hI; obtain ⟨c0, c1, _, _⟩ := hI.1; go_simp; with_reducible rfl
    refine wpI_take (i := 4) (v := ?_) rfl (by kernel_rfl) (by kernel_rfl) (by kernel_rfl) (fun _ _ _ h => h) ⟨by rfl, ?_⟩ ?_
    rotate_left
    · intro X hI; go_simp; with_reducible rfl
    refine wpI_take (i := 5) (v := ?_) rfl (by kernel_rfl) (by kernel_rfl) (by kernel_rfl) (fun _ _ _ h => h) ⟨by rfl, ?_⟩ ?_
    rotate_left
    · intro X hI; obtain ⟨c0, c1, _, _⟩ := hI.1; go_simp; with_reducible rfl
    refine wpI_two (i := 0) (j := 7) rfl rfl (by kernel_rfl) l0 (by rfl) (by rfl) ?_ ?_
    · intro K hK
      have be := below_one X0 (.cells #[] 3)
      have EE := own_empty X0 3 1
      have QA : Hid (Pre w (X0.alloc (.cells #[] 3))) := P0.out.below be
      have lA : Rg (X0.alloc (.cells #[] 3)) w.heap.size (.slice (some ⟨bb, off, none⟩) n cap) (.int .i64 (o : Int)) ∧ True := ⟨l0.1.call be, trivial⟩
      have sA : (X0.alloc (.cells #[] 3)).heap.size = X0.heap.size + 1 := by simp
      go_simp
      refine hK _ _ ?_
      clear hK K be
      generalize X0.alloc (.cells #[] 3) = X1 at *
      have ZA1 : Hid (X1.heap.size = X0.heap.size + 1) := sA
      clear sA
      generalize hE : X0.heap.size = E at *
      clear hE
      refine wpI_two (i := 3) (j := 7) rfl rfl (by kernel_rfl) lA (by rfl) (by rfl) ?_ ?_
      · intro K hK
        refine app_cells (X := X1) (.tmp 21) (.tmp 23) rfl EE h0 hn (CK.out _ QA.out.bel) rfl rfl ?_
        intro v' X2 hv hg hwh
        refine hK _ _ ?_
        clear hK K
        have QX2 : Hid (Pre w X2) := QA.out.grown hg (by have := Z0.out; omega)
        have lB : Rg X2 w.heap.size (.slice (some ⟨bb, off, none⟩) n cap) (.int .i64 (o : Int)) ∧ True := ⟨lA.1.grown hg (fun e => by have := Option.some.inj e; have := Z0.out; omega), trivial⟩
        obtain ⟨P, c, rfl⟩ : ∃ P c, v' = .slice (some ⟨P, 0, none⟩) n c := by
          rcases hv.2 with ⟨_, e⟩ | ⟨P, c, cur, e, _⟩
          · omega
          · exact ⟨P, c, e⟩
        have HV : Hid (X2.ownsRow E 3 1 (.slice (some ⟨P, 0, none⟩) n c) n (ils cs n)) := hv
        clear hv
        refine wpI_take (i := 6) (v := ?_) rfl (by kernel_rfl) (by kernel_rfl) (by kernel_rfl) (fun _ _ _ h => h) ⟨by rfl, ?_⟩ ?_
        rotate_left
        · intro X hI; go_simp; with_reducible rfl
        refine wpI_only (i := 7) rfl ?_ lB ?_ ?_
        · kernel_rfl
        · rfl
        intro K hK
        have bz := below_one X2 (.cells #[.slice none 0 0, .int .i64 0] 26)
        have lC : Rg (X2.alloc (.cells #[.slice none 0 0, .int .i64 0] 26)) w.heap.size (.slice (some ⟨bb, off, none⟩) n cap) (.int .i64 (o : Int)) ∧ True := ⟨lB.1.call bz, trivial⟩
        go_simp
        refine hK _ _ ?_
        clear hK K bz
        refine wpI_only (i := 8) rfl ?_ lC ?_ ?_
        · kernel_rfl
        · rfl
        intro K hK
        have bz := below_one X2 (.cells #[.slice (some ⟨P, 0, none⟩) n c, .int .i64 (o : Int)] 26)
        have lD : Rg (X2.alloc (.cells #[.slice (some ⟨P, 0, none⟩) n c, .int .i64 (o : Int)] 26)) w.heap.size (.slice (some ⟨bb, off, none⟩) n cap) (.int .i64 (o : Int)) ∧ True := ⟨lB.1.call bz, trivial⟩
        have SP : Hid (Sp w (X2.alloc (.cells #[.slice (some ⟨P, 0, none⟩) n c, .int .i64 (o : Int)] 26)) X2.heap.size (.slice (some ⟨P, 0, none⟩) n c) (.slice (some ⟨w.heap.size + 2, 0, none⟩) 0 0) n 0 cs (rtl n o cs xs) o) := QX2.out.make HV.out (by have := Z0.out; omega) _
        go_simp
        refine hK _ _ ?_
        clear hK K bz
        refine wpI_done lD (by kernel_rfl) ?_ _
        go_wp2
        go_meet
        exact ⟨_, _, rfl, SP.out⟩
      · intro K hK
        have bz := below_one X1 (.cells #[.slice none 0 0, .int .i64 0] 26)
        have lB : Rg (X1.alloc (.cells #[.slice none 0 0, .int .i64 0] 26)) w.heap.size (.slice (some ⟨bb, off, none⟩) n cap) (.int .i64 (o : Int)) ∧ True := ⟨lA.1.call bz, trivial⟩
        have QB : Hid (Pre w (X1.alloc (.cells #[.slice none 0 0, .int .i64 0] 26))) := QA.out.below bz
        have EB := own_below EE bz
        have RB : Hid (Rg (X1.alloc (.cells #[.slice none 0 0, .int .i64 0] 26)) X1.heap.size (.slice none 0 0) (.int .i64 0)) := Rg.new _ _ _ _
        have sB : (X1.alloc (.cells #[.slice none 0 0, .int .i64 0] 26)).heap.size = X1.heap.size + 1 := by simp
        go_simp
        refine hK _ _ ?_
        clear hK K bz
        generalize X1.alloc (.cells #[.slice none 0 0, .int .i64 0] 26) = X2 at *
        have ZB1 : Hid (X2.heap.size = X1.heap.size + 1) := sB
        clear sB
        generalize hG : X1.heap.size = G at *
        clear hG
        refine wpI_only (i := 3) rfl ?_ lB ?_ ?_
        · kernel_rfl
        · rfl
        intro K hK
        refine app_cells (X := X2) (.tmp 21) (.tmp 23) rfl EB h0 hn (CK.out _ QB.out.bel) rfl rfl ?_
        intro v' X3 hv hg hwh
        refine hK _ _ ?_
        clear hK K
        have QX3 : Hid (Pre w X3) := QB.out.grown hg (by have := Z0.out; omega)
        have lC : Rg X3 w.heap.size (.slice (some ⟨bb, off, none⟩) n cap) (.int .i64 (o : Int)) ∧ True := ⟨lB.1.grown hg (fun e => by have := Option.some.inj e; have := Z0.out; omega), trivial⟩
        obtain ⟨P, c, rfl⟩ : ∃ P c, v' = .slice (some ⟨P, 0, none⟩) n c := by
          rcases hv.2 with ⟨_, e⟩ | ⟨P, c, cur, e, _⟩
          · omega
          · exact ⟨P, c, e⟩
        have HV : Hid (X3.ownsRow E 3 1 (.slice (some ⟨P, 0, none⟩) n c) n (ils cs n)) := hv
        clear hv
        have RC : Hid (Rg X3 G (.slice none 0 0) (.int .i64 0)) := RB.out.grown hg (fun e => by have := Option.some.inj e; have := ZA1.out; omega)
        have hne : (Value.slice (some ⟨P, 0, none⟩) n c).ownBlock ≠ some G := fun e => by rcases hwh with x | x <;> (rw [x] at e; have := Option.some.inj e; have := ZA1.out; have := ZB1.out; omega)
        refine wpI_take (i := 6) (v := ?_) rfl (by kernel_rfl) (by kernel_rfl) (by kernel_rfl) (fun _ _ _ h => h) ⟨by rfl, ?_⟩ ?_
        rotate_left
        · intro X hI; go_simp; with_reducible rfl
        refine wpI_only (i := 8) rfl ?_ lC ?_ ?_
        · kernel_rfl
        · rfl
        intro K hK
        obtain ⟨d0, d1, t0, t1⟩ := RC.out
        have SP : Hid (Sp w ((X3.setCell ⟨G, 0, none⟩ (.slice (some ⟨P, 0, none⟩) n c)).setCell ⟨G, 1, none⟩ (.int .i64 (o : Int))) G (.slice (some ⟨P, 0, none⟩) n c) (.slice (some ⟨w.heap.size + 2, 0, none⟩) 0 0) n 0 cs (rtl n o cs xs) o) := QX3.out.make2 HV.out (by have := Z0.out; omega) RC.out (by have := Z0.out; have := ZA1.out; omega) hne _
        have lD : Rg ((X3.setCell ⟨G, 0, none⟩ (.slice (some ⟨P, 0, none⟩) n c)).setCell ⟨G, 1, none⟩ (.int .i64 (o : Int))) w.heap.size (.slice (some ⟨bb, off, none⟩) n cap) (.int .i64 (o : Int)) ∧ True := ⟨(lC.1.other (by have := Z0.out; have := ZA1.out; omega) _ _).other (by have := Z0.out; have := ZA1.out; omega) _ _, trivial⟩
        go_simp
        refine hK _ _ ?_
        clear hK K d0 d1 t0 t1
        refine wpI_done lD (by kernel_rfl) ?_ _
        go_wp2
        go_meet
        exact ⟨_, _, rfl, SP.out⟩
    · intro K hK
      have bz := below_one X0 (.cells #[.slice none 0 0, .int .i64 0] 26)
      have lA : Rg (X0.alloc (.cells #[.slice none 0 0, .int .i64 0] 26)) w.heap.size (.slice (some ⟨bb, off, none⟩) n cap) (.int .i64 (o : Int)) ∧ True := ⟨l0.1.call bz, trivial⟩
      have QA : Hid (Pre w (X0.alloc (.cells #[.slice none 0 0, .int .i64 0] 26))) := P0.out.below bz
      have RA : Hid (Rg (X0.alloc (.cells #[.slice none 0 0, .int .i64 0] 26)) X0.heap.size (.slice none 0 0) (.int .i64 0)) := Rg.new _ _ _ _
      have sA : (X0.alloc (.cells #[.slice none 0 0, .int .i64 0] 26)).heap.size = X0.heap.size + 1 := by simp
      go_simp
      refine hK _ _ ?_
      clear hK K bz
      generalize X0.alloc (.cells #[.slice none 0 0, .int .i64 0] 26) = X1 at *
      have ZA1 : Hid (X1.heap.size = X0.heap.size + 1) := sA
      clear sA
      generalize hG : X0.heap.size = G at *
      clear hG
      refine wpI_only (i := 0) rfl ?_ lA ?_ ?_
      · kernel_rfl
      · rfl
      intro K hK
      have be := below_one X1 (.cells #[] 3)
      have EE := own_empty X1 3 1
      have QB : Hid (Pre w (X1.alloc (.cells #[] 3))) := QA.out.below be
      have lB : Rg (X1.alloc (.cells #[] 3)) w.heap.size (.slice (some ⟨bb, off, none⟩) n cap) (.int .i64 (o : Int)) ∧ True := ⟨lA.1.call be, trivial⟩
      have RB : Hid (Rg (X1.alloc (.cells #[] 3)) G (.slice none 0 0) (.int .i64 0)) := RA.out.call be
      have sB : (X1.alloc (.cells #[] 3)).heap.size = X1.heap.size + 1 := by simp
      go_simp
      refine hK _ _ ?_
      clear hK K be
      generalize X1.alloc (.cells #[] 3) = X2 at *
      have ZB1 : Hid (X2.heap.size = X1.heap.size + 1) := sB
      clear sB
      generalize hE : X1.heap.size = E at *
      clear hE
      refine wpI_only (i := 3) rfl ?_ lB ?_ ?_
      · kernel_rfl
      · rfl
      intro K hK
      refine app_cells (X := X2) (.tmp 21) (.tmp 23) rfl EE h0 hn (CK.out _ QB.out.bel) rfl rfl ?_
      intro v' X3 hv hg hwh
      refine hK _ _ ?_
      clear hK K
      have QX3 : Hid (Pre w X3) := QB.out.grown hg (by have := Z0.out; have := ZA1.out; omega)
      have lC : Rg X3 w.heap.size (.slice (some ⟨bb, off, none⟩) n cap) (.int .i64 (o : Int)) ∧ True := ⟨lB.1.grown hg (fun e => by have := Option.some.inj e; have := Z0.out; have := ZA1.out; omega), trivial⟩
      obtain ⟨P, c, rfl⟩ : ∃ P c, v' = .slice (some ⟨P, 0, none⟩) n c := by
        rcases hv.2 with ⟨_, e⟩ | ⟨P, c, cur, e, _⟩
        · omega
        · exact ⟨P, c, e⟩
      have HV : Hid (X3.ownsRow E 3 1 (.slice (some ⟨P, 0, none⟩) n c) n (ils cs n)) := hv
      clear hv
      have RC : Hid (Rg X3 G (.slice none 0 0) (.int .i64 0)) := RB.out.grown hg (fun e => by have := Option.some.inj e; have := ZA1.out; omega)
      have hne : (Value.slice (some ⟨P, 0, none⟩) n c).ownBlock ≠ some G := fun e => by rcases hwh with x | x <;> (rw [x] at e; have := Option.some.inj e; have := ZA1.out; have := ZB1.out; omega)
      refine wpI_take (i := 6) (v := ?_) rfl (by kernel_rfl) (by kernel_rfl) (by kernel_rfl) (fun _ _ _ h => h) ⟨by rfl, ?_⟩ ?_
      rotate_left
      · intro X hI; go_simp; with_reducible rfl
      refine wpI_only (i := 8) rfl ?_ lC ?_ ?_
      · kernel_rfl
      · rfl
      intro K hK
      obtain ⟨d0, d1, t0, t1⟩ := RC.out
      have SP : Hid (Sp w ((X3.setCell ⟨G, 0, none⟩ (.slice (some ⟨P, 0, none⟩) n c)).setCell ⟨G, 1, none⟩ (.int .i64 (o : Int))) G (.slice (some ⟨P, 0, none⟩) n c) (.slice (some ⟨w.heap.size + 2, 0, none⟩) 0 0) n 0 cs (rtl n o cs xs) o) := QX3.out.make2 HV.out (by have := Z0.out; have := ZA1.out; omega) RC.out (by have := Z0.out; omega) hne _
      have lD : Rg ((X3.setCell ⟨G, 0, none⟩ (.slice (some ⟨P, 0, none⟩) n c)).setCell ⟨G, 1, none⟩ (.int .i64 (o : Int))) w.heap.size (.slice (some ⟨bb, off, none⟩) n cap) (.int .i64 (o : Int)) ∧ True := ⟨(lC.1.other (by have := Z0.out; have := ZA1.out; omega) _ _).other (by have := Z0.out; have := ZA1.out; omega) _ _, trivial⟩
      go_simp
      refine hK _ _ ?_
      clear hK K d0 d1 t0 t1
      refine wpI_done lD (by kernel_rfl) ?_ _
      go_wp2
      go_meet
      exact ⟨_, _, rfl, SP.out⟩
  case rest =>
    clear PR q1 SZ S3 CK
    obtain ⟨g, c2, rfl, hS⟩ := hcut
    obtain ⟨P, c, rfl⟩ : ∃ P c, c2 = .slice (some ⟨P, 0, none⟩) n c := by
      rcases hS.out.oc.2 with ⟨_, e⟩ | ⟨P, c, cur, e, _⟩
      · omega
      · exact ⟨P, c, e⟩
    have hcn : n ≤ c := by
      rcases hS.out.oc.2 with ⟨_, e⟩ | ⟨P', c', cur, e, _, _, e2, _⟩
      · omega
      · injection e with _ _ e3; omega
    have S0 : Hid (Sp w wc g (.slice (some ⟨P, 0, none⟩) n c) (.slice (some ⟨w.heap.size + 2, 0, none⟩) 0 0) n 0 (rcl n o cs xs 0) (rtl n o cs xs) (plc n o 0)) := by
      rw [plc_zero ho]; exact hS.out
    clear hS
    generalize hov : Value.slice (some ⟨w.heap.size + 2, 0, none⟩) 0 0 = ov0 at S0 ⊢
    clear hov
    go_wp2
    go_loopw [7, 9] (fun ov i wr => ∃ k : Nat, i = .int .i64 k ∧ k ≤ N ∧ Hid (Sp w wr g (.slice (some ⟨P, 0, none⟩) n c) ov n k (rcl n o cs xs k) (rtl n o cs xs) (plc n o k))) (fun _ i _ => N - (intOf i).toNat)
    case atStart => exact ⟨0, rfl, by omega, S0.out⟩
    case round =>
      obtain ⟨k, rfl, hk, hrel⟩ := hrel
      by_cases h1 : k < N
      · obtain ⟨bl, ol, rfl, hLK⟩ := LK.out (by omega)
        have SA : Hid (Sp w wr g (.slice (some ⟨P, 0, none⟩) n c) u7 n k (rcl n o cs xs k) (rtl n o cs xs) (plc n o k)) := hrel.out
        have HL : Hid (∀ X, Below w.heap.size w X → X.cell? ⟨bl, ol + k, none⟩ = some (.int .i64 (xs k))) := fun X hX => hLK X hX k h1
        clear hrel hLK
        have hrt : Hid (rtl n o cs xs k = rcl n o cs xs k (plc n o k)) := rfl
        have hrc : Hid (rcl n o cs xs (k + 1) = fun i => if i = plc n o k then xs k else rcl n o cs xs k i) := rfl
        have hpl : plc n o k < n := plc_lt h0
        obtain ⟨q2, hq2⟩ : ∃ q2, q2 = plc n o (k + 1) := ⟨_, rfl⟩
        have hmod : Hid ((((plc n o k : Nat) : Int) + 1) % (n : Int) = (q2 : Int)) := by show (((plc n o k : Nat) : Int) + 1) % (n : Int) = (q2 : Int); rw [hq2, ← plc_succ]; exact_mod_cast rfl
        have HQ2 : Hid (q2 = plc n o (k + 1)) := hq2
        clear hq2
        generalize plc n o k = p at *
        generalize xs k = x at *
        have d0 := World.ownsRow.cellAt SA.out.oc p (by omega)
        rw [ils_get hpl, ← hrt.out] at d0
        generalize hz : rtl n o cs xs k = z at d0
        have HZ : Hid (rtl n o cs xs k = z) := hz
        clear hz hrt
        obtain ⟨c0, c1, _, _⟩ := SA.out.rg
        have SB : Hid (Sp w (wr.alloc (.cells #[.int .i64 z] 3)) g (.slice (some ⟨P, 0, none⟩) n c) u7 n k (rcl n o cs xs k) (rtl n o cs xs) p) := SA.out.below (below_one _ _)
        go_upto_region 9 with (first | (at_builtin; refine wpList_app _ rfl _ _ 22 rfl w.heap.size 3 i0 (.int .i64 0) 1 8 Try.underlying22 hi hz0 hz1 hz2 rfl (by decide) _ _ _ rfl SB.out.oo ⟨wr.heap.size, 0, none⟩ 1 1 [.int .i64 z] rfl rfl (one_new _ _ _) (by simp [Value.oneCell']) (by unfold maxLen; omega) (by omega) SB.out.bel.size (by omega) ?_; intro ov' w4 hown' hgrow hwhere; rw [← HZ.out, ← ils_snoc (rtl n o cs xs) k] at hown'; have SC : Hid (Sp w w4 g (.slice (some ⟨P, 0, none⟩) n c) ov' n (k + 1) (rcl n o cs xs k) (rtl n o cs xs) p) := SB.out.grown hown' hgrow hwhere; clear hown' hgrow hwhere))
        clear SA SB c0 c1 d0
        obtain ⟨c0, c1, y0, y1⟩ := SC.out.rg
        have e0 := HL.out _ SC.out.bel
        have d0 := World.ownsRow.cellAt SC.out.oc p (by omega)
        rw [ils_get hpl] at d0
        have z0 := World.ownsRow.frozenAt SC.out.oc p
        have SD : Hid (Sp w (w4.setCell ⟨P, p, none⟩ (.int .i64 x)).drew g (.slice (some ⟨P, 0, none⟩) n c) ov' n (k + 1) (rcl n o cs xs (k + 1)) (rtl n o cs xs) p) := by
          show Sp w (w4.setCell ⟨P, p, none⟩ (.int .i64 x)).drew g (.slice (some ⟨P, 0, none⟩) n c) ov' n (k + 1) (rcl n o cs xs (k + 1)) (rtl n o cs xs) p
          rw [hrc.out]
          exact (SC.out.put p x).below (Below.refl _ _).drew
        go_region
        clear SC c0 c1 y0 y1 e0 d0 z0 hrc HL
        generalize (w4.setCell ⟨P, p, none⟩ (.int .i64 x)).drew = w5 at *
        obtain ⟨c0, c1, y0, y1⟩ := SD.out.rg
        have hm1 : ((p : Int) + 1) % (n : Int) = (q2 : Int) := hmod.out
        have hnz : ¬ ((n : Int) = 0) := by omega
        have SE : Hid (Sp w (w5.setCell ⟨g, 1, none⟩ (.int .i64 (q2 : Int))) g (.slice (some ⟨P, 0, none⟩) n c) ov' n (k + 1) (rcl n o cs xs (k + 1)) (rtl n o cs xs) (plc n o (k + 1))) := by
          show Sp w (w5.setCell ⟨g, 1, none⟩ (.int .i64 (q2 : Int))) g (.slice (some ⟨P, 0, none⟩) n c) ov' n (k + 1) (rcl n o cs xs (k + 1)) (rtl n o cs xs) (plc n o (k + 1))
          rw [← HQ2.out]
          exact SD.out.at q2
        clear hmod
        go_wp2
        go_roundw
        case rel => exact ⟨k + 1, by go_num, by omega, SE.out⟩
        case measure => simp [intOf]; omega
      · obtain rfl : N = k := by omega
        obtain ⟨c0, c1, _, _⟩ := hrel.out.rg
        obtain ⟨d0, d1, t0, t1⟩ := hrel.out.rr
        have ng := hrel.out.ng
        have ng' : w.heap.size + 1 ≠ g := fun e => ng e.symm
        obtain ⟨pp, hpp⟩ : ∃ pp, pp = plc n o N := ⟨_, rfl⟩
        rw [← hpp] at c1
        have HPP : Hid (pp = plc n o N) := hpp
        have K6 : Kd (fun j => j = w.heap.size + 1) wr ((wr.setCell ⟨w.heap.size + 1, 0, none⟩ (.slice (some ⟨P, 0, none⟩) n c)).setCell ⟨w.heap.size + 1, 1, none⟩ (.int .i64 (pp : Int))) := ((Kd.refl (fun j => j = w.heap.size + 1) wr).put (.inl rfl) 0 _).put (.inl rfl) 1 _
        have F1 : Hid (Rg ((wr.setCell ⟨w.heap.size + 1, 0, none⟩ (.slice (some ⟨P, 0, none⟩) n c)).setCell ⟨w.heap.size + 1, 1, none⟩ (.int .i64 (pp : Int))) (w.heap.size + 1) (.slice (some ⟨P, 0, none⟩) n c) (.int .i64 (pp : Int))) := (hrel.out.rr.put0 _).put1 _
        have F2 : Hid (((wr.setCell ⟨w.heap.size + 1, 0, none⟩ (.slice (some ⟨P, 0, none⟩) n c)).setCell ⟨w.heap.size + 1, 1, none⟩ (.int .i64 (pp : Int))).ownsRow w.heap.size 3 1 (.slice (some ⟨P, 0, none⟩) n c) n (ils (rcl n o cs xs N) n)) := own_kd hrel.out.oc K6 (fun j hj hd => hrel.out.rc (by rw [hj]; exact congrArg some hd))
        have F3 : Hid (((wr.setCell ⟨w.heap.size + 1, 0, none⟩ (.slice (some ⟨P, 0, none⟩) n c)).setCell ⟨w.heap.size + 1, 1, none⟩ (.int .i64 (pp : Int))).ownsRow w.heap.size 3 1 u7 N (ils (rtl n o cs xs) N)) := own_kd hrel.out.oo K6 (fun j hj hd => hrel.out.ro (by rw [hj]; exact congrArg some hd))
        have F4 : Hid (Below w.heap.size w ((wr.setCell ⟨w.heap.size + 1, 0, none⟩ (.slice (some ⟨P, 0, none⟩) n c)).setCell ⟨w.heap.size + 1, 1, none⟩ (.int .i64 (pp : Int)))) := (hrel.out.bel.setCell (p := ⟨w.heap.size + 1, 0, none⟩) (by show w.heap.size ≤ w.heap.size + 1; omega) _).setCell (p := ⟨w.heap.size + 1, 1, none⟩) (by show w.heap.size ≤ w.heap.size + 1; omega) _
        have AP : Hid (Apart (.slice (some ⟨P, 0, none⟩) n c) u7) := hrel.out.ap
        clear K6 hrel hpp
        go_wp2
        generalize (wr.setCell ⟨w.heap.size + 1, 0, none⟩ (.slice (some ⟨P, 0, none⟩) n c)).setCell ⟨w.heap.size + 1, 1, none⟩ (.int .i64 (pp : Int)) = w6 at *
        clear c0 c1 d0 d1 t0 t1
        have c0 := F1.out.c0
        have c1 := F1.out.c1
        refine bodyPost_ret (v := .tuple #[.agg #[.slice (some ⟨P, 0, none⟩) n c, .int .i64 (pp : Int)], u7, .bool true]) (by simp [results, Try.results6, go_sem, c0, c1]) rfl ?_
        exact ⟨_, _, (by rw [← HPP.out]), F2.out, F3.out, AP.out, F4.out⟩

set_option maxRecDepth 20000 in
set_option maxHeartbeats 4000000 in
theorem sPush_bad {w : World} {cv lv : Value} {n N : Nat} {cs xs : Nat → Int} {o : Int} (hc : Il w cv n cs) (hl : Il w lv N xs) (hn : n ≤ 1048576) (hN : N ≤ 1048576) (h : ¬ GPu n N cs xs o) (zs ys : Nat → Int) :
    Calls Try.prog 6 #[.agg #[cv, .int .i64 o], lv] w fun e w' => Ppu w w' e 0 zs 0 0 ys false := by
  have b1 := below_one w (.cells #[cv, .int .i64 o] 26)
  have R1 := Rg.new w cv (.int .i64 o) 26
  have s1 : (w.alloc (.cells #[cv, .int .i64 o] 26)).heap.size = w.heap.size + 1 := by simp
  generalize hW1 : w.alloc (.cells #[cv, .int .i64 o] 26) = W1 at *
  have b2 := below_one W1 (.cells #[.slice none 0 0, .int .i64 0] 26)
  have R2 := Rg.new W1 (.slice none 0 0) (.int .i64 0) 26
  have s2 : (W1.alloc (.cells #[.slice none 0 0, .int .i64 0] 26)).heap.size = w.heap.size + 2 := by simp [s1]
  generalize hW2 : W1.alloc (.cells #[.slice none 0 0, .int .i64 0] 26) = W2 at *
  have b3 := below_one W2 (.cells #[] 3)
  have O3 := own_empty W2 3 1
  generalize hW3 : W2.alloc (.cells #[] 3) = W3 at *
  rw [s1] at R2
  rw [s2] at O3
  have b23 := bstep b2 b3
  have i1 := sRing_any ((hc.below b1).below b23) hn o
  have LI : Hid (Il W3 lv N xs) := (hl.below b1).below b23
  have q1 : Hid (Rg W3 w.heap.size cv (.int .i64 o)) := R1.call b23
  have PR : Hid (Pre w W3) := ⟨R2.call b3, own_base O3 (by omega), bstep b1 b23⟩
  obtain ⟨dS, hdS⟩ : ∃ dS, dS = decide (Sig N xs) := ⟨_, rfl⟩
  have DS : Hid (dS = decide (Sig N xs)) := hdS
  clear hdS
  obtain ⟨ao, cap, rfl, hcap, hcc⟩ := hc
  obtain ⟨lo, lc, rfl, hlc, hcl⟩ := hl
  clear hcc hcl b1 b2 b3 b23 R1 R2 O3
  go_enter Try.func6, Try.ntmps6
  go_upto_region 2 with fail
  clear hW1 hW2 hW3 s1 s2
  have c0 := q1.out.c0
  have c1 := q1.out.c1
  by_cases h1 : Rgo n cs o
  · rw [decide_eq_true h1] at i1
    obtain rfl : dS = false := by rw [DS.out]; exact decide_eq_false (fun h2 => h ⟨h1, h2⟩)
    clear h h1
    go_upto_region 3 with (first
      | (go_at_call 19; (with_reducible refine i1.mono ?_); rintro e w3 ⟨rfl, hb3⟩; have PR : Hid (Pre w w3) := PR.out.below hb3; have i2 := sSig_any (LI.out.below hb3) hN; rw [← DS.out] at i2; clear hb3)
      | (go_at_call 20; (with_reducible refine i2.mono ?_); rintro e w' ⟨rfl, hw⟩; obtain rfl := hw.symm))
    obtain ⟨d0, d1, t0, t1⟩ := PR.out.rr
    have K6 : Kd (fun j => j = w.heap.size + 1) w3 ((w3.setCell ⟨w.heap.size + 1, 0, none⟩ (.slice none 0 0)).setCell ⟨w.heap.size + 1, 1, none⟩ (.int .i64 0)) := ((Kd.refl (fun j => j = w.heap.size + 1) w3).put (.inl rfl) 0 _).put (.inl rfl) 1 _
    have F1 : Hid (Rg ((w3.setCell ⟨w.heap.size + 1, 0, none⟩ (.slice none 0 0)).setCell ⟨w.heap.size + 1, 1, none⟩ (.int .i64 0)) (w.heap.size + 1) (.slice none 0 0) (.int .i64 0)) := (PR.out.rr.put0 _).put1 _
    have F3 : Hid (((w3.setCell ⟨w.heap.size + 1, 0, none⟩ (.slice none 0 0)).setCell ⟨w.heap.size + 1, 1, none⟩ (.int .i64 0)).ownsRow w.heap.size 3 1 (.slice (some ⟨w.heap.size + 2, 0, none⟩) 0 0) 0 (ils ys 0)) := own_kd PR.out.oo K6 (fun j hj hd => by have h9 : w.heap.size + 2 = j := Option.some.inj hj; have h8 : j = w.heap.size + 1 := hd; omega)
    have F4 : Hid (Below w.heap.size w ((w3.setCell ⟨w.heap.size + 1, 0, none⟩ (.slice none 0 0)).setCell ⟨w.heap.size + 1, 1, none⟩ (.int .i64 0))) := (PR.out.bel.setCell (p := ⟨w.heap.size + 1, 0, none⟩) (by show w.heap.size ≤ w.heap.size + 1; omega) _).setCell (p := ⟨w.heap.size + 1, 1, none⟩) (by show w.heap.size ≤ w.heap.size + 1; omega) _
    clear K6 c0 c1
    go_wp2
    generalize (w3.setCell ⟨w.heap.size + 1, 0, none⟩ (.slice none 0 0)).setCell ⟨w.heap.size + 1, 1, none⟩ (.int .i64 0) = w6 at *
    have c0 := F1.out.c0
    have c1 := F1.out.c1
    refine bodyPost_ret (v := .tuple #[.agg #[.slice none 0 0, .int .i64 0], .slice (some ⟨w.heap.size + 2, 0, none⟩) 0 0, .bool false]) (by simp [results, Try.results6, go_sem, c0, c1]) rfl ?_
    exact ⟨_, _, rfl, nil_own _ _ _, F3.out, .inl rfl, F4.out⟩
  · rw [decide_eq_false h1] at i1
    clear h h1
    go_upto_region 3 with (first
      | (go_at_call 19; (with_reducible refine i1.mono ?_); rintro e w3 ⟨rfl, hb3⟩; have PR : Hid (Pre w w3) := PR.out.below hb3; clear hb3))
    obtain ⟨d0, d1, t0, t1⟩ := PR.out.rr
    have K6 : Kd (fun j => j = w.heap.size + 1) w3 ((w3.setCell ⟨w.heap.size + 1, 0, none⟩ (.slice none 0 0)).setCell ⟨w.heap.size + 1, 1, none⟩ (.int .i64 0)) := ((Kd.refl (fun j => j = w.heap.size + 1) w3).put (.inl rfl) 0 _).put (.inl rfl) 1 _
    have F1 : Hid (Rg ((w3.setCell ⟨w.heap.size + 1, 0, none⟩ (.slice none 0 0)).setCell ⟨w.heap.size + 1, 1, none⟩ (.int .i64 0)) (w.heap.size + 1) (.slice none 0 0) (.int .i64 0)) := (PR.out.rr.put0 _).put1 _
    have F3 : Hid (((w3.setCell ⟨w.heap.size + 1, 0, none⟩ (.slice none 0 0)).setCell ⟨w.heap.size + 1, 1, none⟩ (.int .i64 0)).ownsRow w.heap.size 3 1 (.slice (some ⟨w.heap.size + 2, 0, none⟩) 0 0) 0 (ils ys 0)) := own_kd PR.out.oo K6 (fun j hj hd => by have h9 : w.heap.size + 2 = j := Option.some.inj hj; have h8 : j = w.heap.size + 1 := hd; omega)
    have F4 : Hid (Below w.heap.size w ((w3.setCell ⟨w.heap.size + 1, 0, none⟩ (.slice none 0 0)).setCell ⟨w.heap.size + 1, 1, none⟩ (.int .i64 0))) := (PR.out.bel.setCell (p := ⟨w.heap.size + 1, 0, none⟩) (by show w.heap.size ≤ w.heap.size + 1; omega) _).setCell (p := ⟨w.heap.size + 1, 1, none⟩) (by show w.heap.size ≤ w.heap.size + 1; omega) _
    clear K6 c0 c1
    go_wp2
    generalize (w3.setCell ⟨w.heap.size + 1, 0, none⟩ (.slice none 0 0)).setCell ⟨w.heap.size + 1, 1, none⟩ (.int .i64 0) = w6 at *
    have c0 := F1.out.c0
    have c1 := F1.out.c1
    refine bodyPost_ret (v := .tuple #[.agg #[.slice none 0 0, .int .i64 0], .slice (some ⟨w.heap.size + 2, 0, none⟩) 0 0, .bool false]) (by simp [results, Try.results6, go_sem, c0, c1]) rfl ?_
    exact ⟨_, _, rfl, nil_own _ _ _, F3.out, .inl rfl, F4.out⟩
end Go.Proofs.Ytphnoghnoacfiaa
