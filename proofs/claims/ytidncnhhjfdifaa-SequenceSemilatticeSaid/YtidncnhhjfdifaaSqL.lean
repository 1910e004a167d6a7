
/-
  Package sequence: the recursion of Visible.
-/
import Derived.Test.YtidncnhhjfdifaaSqI
namespace Go.Proofs.Ytidncnhhjfdifaa
open Go.RowKit
set_option maxRecDepth 4000

theorem Mp.up {κ : Type} {P : Program} {k : TypeId} {enc : κ → Value} {ok : κ → Prop} {z : Value} {w w' : World} {b n : Nat} {g : κ → Value} (h : Mp P k enc ok z w b n g) (hb : Below w.heap.size w w') : Mp P k enc ok z w' b n g := by
  obtain ⟨D, h1, h2⟩ := h
  obtain ⟨es, clock, hb', F, hs, hD⟩ := h1
  exact ⟨D, ⟨es, clock, (hb.block _ (Array.getElem?_eq_some_iff.1 hb').1).trans hb', F, hs, hD⟩, h2⟩
theorem zS (w : World) : (zeroValue 41).run Try.prog w = .ok (.slice none 0 0) w := by kernel_rfl
theorem OpBx.up {w w' : World} {B : Nat} {x : Sq.O} (h : OpBx w B x) (hb : Below w.heap.size w w') : OpBx w' B x := ⟨(hb.block _ (Array.getElem?_eq_some_iff.1 h.blk).1).trans h.blk⟩
theorem ownS_up {base : Nat} {w w' : World} {v : Value} {l : List ByteArray} (h : OwnS base w v l) (hb : Below w.heap.size w w') : OwnS base w' v l := by
  obtain ⟨h1, h2 | ⟨g, cap, cur, e, hg, hc, r⟩⟩ := h
  · exact ⟨h1, .inl h2⟩
  · exact ⟨h1, .inr ⟨g, cap, cur, e, hg, by rw [hb.block g (Array.getElem?_eq_some_iff.1 hc).1]; exact hc, r⟩⟩
/-- 'append(v, c)' for a string, and what has turned -/
theorem wp_appSG {ops : Array Oper} {rest : List Oper} {o : Oper} {a : Act} {Q : Exit → Act → World → Prop} {w : World} (hgd : o.guard = none) (s x : Operand)
    (ho : o.op = .call { callee := .builtin .append, args := #[s, x], argTypes := #[42, 42] })
    (base : Nat) (v : Value) (l : List ByteArray) (c : ByteArray) (ad : Addr) (cap : Nat) (hs : a.eval s = v) (hown : OwnS base w v l) (hx : a.eval x = .slice (some ad) 1 cap) (hp : w.cell? ad = some (.string c))
    (hlen : l.length < 1000000) (hbase : base ≤ w.heap.size)
    (h : ∀ v' w', OwnS base w' v' (l ++ [c]) → w.grownBy w' v.ownBlock → wpList Try.prog ops Q rest (a.put o.dst v') w') : wpList Try.prog ops Q (o :: rest) a w := by
  obtain ⟨i0, hi, hz0, hz1, hz2⟩ := info_parts infoS
  refine wpList_append_own _ hgd s x 42 ho base 9 i0 (.string ByteArray.empty) 1 16 Try.underlying42 hi hz0 hz1 hz2 rfl (by decide) v l.length (l.map strv) hs hown ad 1 cap [.string c] hx rfl ?_ ?_ (by unfold maxLen; omega) (by omega) hbase ?_
  · intro j u hj
    have h0 : j = 0 := by have := (List.getElem?_eq_some_iff.1 hj).1; simpa using this
    subst h0
    rw [add_spot, hp]
    simpa using hj
  · intro u hu
    rw [List.mem_singleton.1 hu]; rfl
  · intro v' w' h1 h2 _
    refine h v' w' ?_ h2
    unfold OwnS
    rw [List.length_append, List.map_append]
    exact h1
structure StopR (p : Prop) : Prop where
  out : p
/-- the captured variables -/
def fwL (b6 b5 bv : Nat) : Array Value := #[.pointer (some ⟨b6, 0, none⟩), .pointer (some ⟨b5, 0, none⟩), .pointer (some ⟨bv, 0, none⟩), .pointer (some ⟨bv + 1, 0, none⟩)]
/-- what lies there when the recursion begins -/
structure Fw (w1 : World) (b6 b5 mf md nf nd : Nat) (g : El → Value) (D : El → Bool) (F : El → List Sq.O) : Prop where
  c6 : w1.cell? ⟨b6, 0, none⟩ = some (.map (some mf))
  c5 : w1.cell? ⟨b5, 0, none⟩ = some (.map (some md))
  m6 : Mp Try.prog 77 elV elOk (.slice none 0 0) w1 mf nf g
  m5 : Mp Try.prog 77 elV elOk (.bool false) w1 md nd (fun x => .bool (D x))
  rows : ∀ x, elOk x → ∃ p cap, g x = .slice p (F x).length cap ∧ Row opE w1 p (F x)
  ok : ∀ x, ∀ o ∈ F x, elOk o.el ∧ o.line.size ≤ 140737488351232
  few : ∀ x, (F x).length ≤ 1000000
/-- between two steps of the recursion: vis has been made visible -/
structure FI (w1 : World) (b6 b5 : Nat) (vis : List ByteArray) (w : World) : Prop where
  bel : Below w1.heap.size w1 w
  box : ∃ v, Boxed w w1.heap.size 42 v ∧ OwnS w1.heap.size w v vis
  fn : Boxed w (w1.heap.size + 1) 79 (.func (.func 54) #[] (fwL b6 b5 w1.heap.size))
theorem FI.up {w1 w w' : World} {b6 b5 : Nat} {vis : List ByteArray} (h : FI w1 b6 b5 vis w) (hb : Below w.heap.size w w') : FI w1 b6 b5 vis w' := by
  obtain ⟨h1, ⟨v, h2, h3⟩, h4⟩ := h
  exact ⟨up_call h1 hb, ⟨v, (hb.block _ h2.lt).trans h2, ownS_up h3 hb⟩, (hb.block _ h4.lt).trans h4⟩
def flS (md : Nat) (o : Sq.O) (D : El → Bool) : Nat → Value → World → Prop
  | 0, v, _ => v = .map (some md)
  | 1, v, _ => v = .agg #[.bool o.del, .int .i64 o.rep, .int .i64 o.cnt, .int .i64 o.arep, .int .i64 o.acnt, .string o.line]
  | 2, v, _ => v = .agg #[.int .i64 o.cnt, .int .i64 o.rep]
  | 3, v, _ => v = .bool (D o.el)
  | _, _, _ => True
theorem flS_stab {md : Nat} {o : Sq.O} {D : El → Bool} {w w' : World} (_ : Below w.heap.size w w') : ∀ {j : Nat} {v : Value}, flS md o D j v w → flS md o D j v w'
  | 0, _, h | 1, _, h | 2, _, h | 3, _, h => h
  | _ + 4, _, _ => trivial
def fl6 (b6 b5 bv : Nat) (o : Sq.O) : Nat → Value → World → Prop
  | 0, v, _ => v = .func (.func 54) #[] #[.pointer (some ⟨b6, 0, none⟩), .pointer (some ⟨b5, 0, none⟩), .pointer (some ⟨bv, 0, none⟩), .pointer (some ⟨bv + 1, 0, none⟩)]
  | 1, v, _ => v = .agg #[.bool o.del, .int .i64 o.rep, .int .i64 o.cnt, .int .i64 o.arep, .int .i64 o.acnt, .string o.line]
  | 2, v, _ => v = .agg #[.int .i64 o.cnt, .int .i64 o.rep]
  | _, _, _ => True
theorem fl6_stab {b6 b5 bv : Nat} {o : Sq.O} {w w' : World} (_ : Below w.heap.size w w') : ∀ {j : Nat} {v : Value}, fl6 b6 b5 bv o j v w → fl6 b6 b5 bv o j v w'
  | 0, _, h | 1, _, h | 2, _, h => h
  | _ + 3, _, _ => trivial
set_option maxRecDepth 100000 in
set_option maxHeartbeats 4000000 in
theorem follow_step {w1 : World} {b6 b5 mf md nf nd : Nat} {g : El → Value} {D : El → Bool} {F : El → List Sq.O} (hF : Fw w1 b6 b5 mf md nf nd g D F) (R : Sq.O → List ByteArray) (x : El) (hx : elOk x)
    (H : ∀ o ∈ F x, ∀ vis w, FI w1 b6 b5 vis w → vis.length + (R o).length ≤ 1000000 → Calls Try.prog 54 (#[elV o.el] ++ fwL b6 b5 w1.heap.size) w fun r w' => r = .returned (.tuple #[]) ∧ FI w1 b6 b5 (vis ++ R o) w')
    (vis : List ByteArray) (w : World) (hI : FI w1 b6 b5 vis w) (hb : vis.length + ((F x).flatMap fun o => (if D o.el then [] else [o.line]) ++ R o).length ≤ 1000000) :
    Calls Try.prog 54 (#[elV x] ++ fwL b6 b5 w1.heap.size) w fun r w' => r = .returned (.tuple #[]) ∧ FI w1 b6 b5 (vis ++ (F x).flatMap fun o => (if D o.el then [] else [o.line]) ++ R o) w' := by
  have HF := Lib.hid hF
  have HH := Lib.hid H
  have HB := Lib.hid hb
  clear hF H hb
  obtain ⟨p, cap, hg, hrow⟩ := HF.out.rows x hx
  have hfew := HF.out.few x
  have HR := Lib.hid hrow
  clear hrow
  have up0 : Below w.heap.size w (w.alloc (.cells #[.int .i64 x.1, .int .i64 x.2] 77 (0, 0))) := up_alloc (Below.refl _ _) _
  have HI := Lib.hid (hI.up up0)
  clear hI
  obtain ⟨kl, hkl⟩ := keyEl x hx
  have hlk := (HF.out.m6.up HI.out.bel).lookup lawEl Try.underlying71 (zS _) hx hkl
  rw [hg] at hlk
  unfold elV at hlk
  have c6 := (HI.out.bel.cell (p := ⟨b6, 0, none⟩) (cell_block_lt HF.out.c6)).trans HF.out.c6
  have g0 : (0 : Int) ≤ ((F x).length : Int) := by omega
  clear hkl hg
  unfold elV fwL
  go_enter Try.func54, Try.ntmps54
  go_wp2_with fail
  generalize hW : w.alloc (.cells #[.int .i64 x.1, .int .i64 x.2] 77 (0, 0)) = W0 at up0 HI hlk c6 ⊢
  clear hlk c6
  go_loopw [12] (fun i wr => ∃ k : Nat, k ≤ (F x).length ∧ i = .int .i64 k ∧ Hid (FI w1 b6 b5 (vis ++ ((F x).take k).flatMap fun o => (if D o.el then [] else [o.line]) ++ R o) wr)) (fun i _ => (F x).length - (intOf i).toNat)
  case atStart => exact ⟨0, Nat.zero_le _, rfl, Lib.hid (by simpa using HI.out)⟩
  case round =>
    obtain ⟨k, hk, rfl, hJ⟩ := hrel
    have b0 : (0 : Int) ≤ (k : Int) := by omega
    by_cases hlt : k < (F x).length
    · have b1 : (k : Int) < ((F x).length : Int) := by omega
      obtain ⟨V, hV⟩ : ∃ V, V = wr := ⟨_, rfl⟩
      rw [← hV] at hJ ⊢
      clear hV
      obtain ⟨bp, fp, rfl, hbp, hcc⟩ := (HR.out.mono hJ.out.bel).cell hlt
      obtain ⟨o, ho⟩ : ∃ o, o = (F x)[k] := ⟨_, rfl⟩
      have HO := Lib.hid ho
      rw [← ho] at hcc
      clear ho
      have hmem : o ∈ F x := by rw [HO.out]; exact List.getElem_mem hlt
      obtain ⟨ook, osm⟩ := HF.out.ok x o hmem
      have c0 : V.cell? ⟨bp, fp + k * 6, none⟩ = some (.bool o.del) := hcc 0 _ rfl
      have c1 : V.cell? ⟨bp, fp + k * 6 + 1, none⟩ = some (.int .i64 o.rep) := hcc 1 _ rfl
      have c2 : V.cell? ⟨bp, fp + k * 6 + 2, none⟩ = some (.int .i64 o.cnt) := hcc 2 _ rfl
      have c3 : V.cell? ⟨bp, fp + k * 6 + 3, none⟩ = some (.int .i64 o.arep) := hcc 3 _ rfl
      have c4 : V.cell? ⟨bp, fp + k * 6 + 4, none⟩ = some (.int .i64 o.acnt) := hcc 4 _ rfl
      have c5 : V.cell? ⟨bp, fp + k * 6 + 5, none⟩ = some (.string o.line) := hcc 5 _ rfl
      clear hcc
      go_wp2_with fail
      have J4 := Lib.hid (hJ.out.up (boxO_up V o))
      have OB : Hid (OpBx (boxO V o) V.heap.size o) := Lib.hid ⟨World.alloc_heap_new V _⟩
      unfold boxO at J4 OB
      generalize hW4 : V.alloc (.cells #[.bool o.del, .int .i64 o.rep, .int .i64 o.cnt, .int .i64 o.arep, .int .i64 o.acnt, .string o.line] 53 (0, 0)) = W4 at J4 OB ⊢
      rename_i K7 hK7 K6 hK6 KK hKK
      obtain ⟨ln, hln⟩ : ∃ ln, ln = (if D o.el then [] else [o.line]) := ⟨_, rfl⟩
      have HP : Hid (vis ++ ((F x).take (k + 1)).flatMap (fun o => (if D o.el then [] else [o.line]) ++ R o) = vis ++ ((F x).take k).flatMap (fun o => (if D o.el then [] else [o.line]) ++ R o) ++ ln ++ R o) := Lib.hid (by
        rw [List.take_succ_eq_append_getElem hlt, List.flatMap_append, hln, HO.out]; simp)
      have HLn : Hid ((vis ++ ((F x).take k).flatMap (fun o => (if D o.el then [] else [o.line]) ++ R o) ++ ln).length + (R o).length ≤ 1000000) := Lib.hid (by
        have e := HB.out
        rw [← List.take_append_drop (k + 1) (F x), List.flatMap_append] at e
        have e2 := congrArg List.length HP.out
        simp only [List.length_append] at e e2 ⊢
        omega)
      obtain ⟨part, hpart⟩ : ∃ part, part = vis ++ ((F x).take k).flatMap (fun o => (if D o.el then [] else [o.line]) ++ R o) := ⟨_, rfl⟩
      rw [← hpart] at HP HLn hJ J4
      clear hpart
      have TL : ∀ (z16 z17 z18 z19 z20 z21 z22 z23 z24 z25 : Value) (W7 : World), FI w1 b6 b5 (part ++ ln) W7 → OpB W7 V.heap.size o → K6 { tmps := #[.agg #[.int .i64 x.1, .int .i64 x.2], .pointer (some ⟨b6, 0, none⟩), .pointer (some ⟨b5, 0, none⟩), .pointer (some ⟨w1.heap.size, 0, none⟩), .pointer (some ⟨w1.heap.size + 1, 0, none⟩), .pointer (some ⟨w.heap.size, 0, none⟩), undef, .pointer (some ⟨V.heap.size, 0, none⟩), .map (some mf), .agg #[.int .i64 x.1, .int .i64 x.2], .slice (some ⟨bp, fp, none⟩) (F x).length cap, .int .i64 (F x).length, .int .i64 k, .bool true, .pointer (some ⟨bp, fp + k * 6, none⟩), .agg #[.bool o.del, .int .i64 o.rep, .int .i64 o.cnt, .int .i64 o.arep, .int .i64 o.acnt, .string o.line], z16, z17, z18, z19, z20, z21, z22, z23, z24, z25, u26, u27, u28, u29, u30], defers := [] } W7 := by
        intro z16 z17 z18 z19 z20 z21 z22 z23 z24 z25 W7 J7 OB7
        refine hK6 _ _ ?_
        clear hK6 hKK
        refine region_facts (by kernel_rfl) (by kernel_rfl) (fun y => { tmps := #[.agg #[.int .i64 x.1, .int .i64 x.2], .pointer (some ⟨b6, 0, none⟩), .pointer (some ⟨b5, 0, none⟩), .pointer (some ⟨w1.heap.size, 0, none⟩), .pointer (some ⟨w1.heap.size + 1, 0, none⟩), .pointer (some ⟨w.heap.size, 0, none⟩), undef, .pointer (some ⟨V.heap.size, 0, none⟩), .map (some mf), .agg #[.int .i64 x.1, .int .i64 x.2], .slice (some ⟨bp, fp, none⟩) (F x).length cap, .int .i64 (F x).length, .int .i64 k, .bool true, .pointer (some ⟨bp, fp + k * 6, none⟩), .agg #[.bool o.del, .int .i64 o.rep, .int .i64 o.cnt, .int .i64 o.arep, .int .i64 o.acnt, .string o.line], z16, z17, z18, z19, z20, z21, z22, z23, z24, z25, y 0, y 1, y 2, u29, u30], defers := [] }) (fun j => [u26, u27, u28].getD j undef) rfl (fun w' => Below W7.heap.size W7 w') (fl6 b6 b5 w1.heap.size o) (Below.refl _ _).drew ?_ (by simp)
        refine steps_cons ?_ (steps_cons ?_ (steps_cons ?_ (steps_last ?_)))
        · refine step_mk [] rfl rfl (fun _ _ => rfl) ?_
          intro y w5 hC hd K hK
          have c10 := (J7.up hC).fn.cell
          unfold fwL at c10
          dsimp only at hK ⊢
          go_simp
          exact hK _ _ hC rfl (fun _ _ _ h => h)
        · refine step_mk [] rfl rfl (fun _ _ => rfl) ?_
          intro y w5 hC hd K hK
          obtain ⟨q0, q1, q2, q3, q4, q5, _⟩ := OB7.up hC
          dsimp only at hK ⊢
          go_simp
          exact hK _ _ hC rfl (fun _ _ _ h => h)
        · refine step_mk [1] rfl rfl (fun _ _ => rfl) ?_
          intro y w5 hC hd K hK
          have e1 : y 1 = _ := hd 1 (by simp)
          dsimp only at hK ⊢
          simp only [e1] at hK ⊢
          go_simp
          refine (show Calls Try.prog 52 _ _ (BPost (.agg #[.int .i64 o.cnt, .int .i64 o.rep]) _) from elementOf_any o _).mono ?_
          rintro e w2 ⟨rfl, hb⟩
          exact hK _ _ (up_call hC hb) rfl (fun j u _ h => fl6_stab hb h)
        · refine tail_mk rfl ?_
          intro y w5 hC hd K hK
          have e0 : y 0 = _ := hd 0 (by omega)
          have e2 : y 2 = _ := hd 2 (by omega)
          dsimp only at hK ⊢
          simp only [e0, e2] at hK ⊢
          go_simp
          refine (HH.out o hmem _ _ (J7.up hC) HLn.out).mono ?_
          rintro r w9 ⟨rfl, J9⟩
          refine hK _ _ ?_
          clear hK
          refine hK7 _ _ ?_
          clear hK7
          go_wp2_with fail
          refine ⟨⟨k + 1, hlt, by simp, Lib.hid ?_⟩, ?_⟩
          · rw [HP.out]
            exact J9
          · rw [show intOf (Value.int IntKind.i64 ((k : Int) + 1)) = (k : Int) + 1 from rfl, show intOf (Value.int IntKind.i64 (k : Int)) = (k : Int) from rfl]
            omega
      refine region_facts (by kernel_rfl) (by kernel_rfl) (fun y => { tmps := #[.agg #[.int .i64 x.1, .int .i64 x.2], .pointer (some ⟨b6, 0, none⟩), .pointer (some ⟨b5, 0, none⟩), .pointer (some ⟨w1.heap.size, 0, none⟩), .pointer (some ⟨w1.heap.size + 1, 0, none⟩), .pointer (some ⟨w.heap.size, 0, none⟩), undef, .pointer (some ⟨V.heap.size, 0, none⟩), .map (some mf),
        .agg #[.int .i64 x.1, .int .i64 x.2], .slice (some ⟨bp, fp, none⟩) (F x).length cap, .int .i64 (F x).length, .int .i64 k, .bool true, .pointer (some ⟨bp, fp + k * 6, none⟩), .agg #[.bool o.del, .int .i64 o.rep, .int .i64 o.cnt, .int .i64 o.arep, .int .i64 o.acnt, .string o.line], y 0, y 1, y 2, y 3, u20, u21, u22, u23, u24, u25, u26, u27, u28, u29, u30], defers := [] })
        (fun j => [u16, u17, u18, u19].getD j undef) rfl (fun w' => Below W4.heap.size W4 w') (flS md o D) (Below.refl _ _).drew ?_ (by simp)
      refine steps_cons ?_ (steps_cons ?_ (steps_cons ?_ (steps_cons ?_ (steps_last ?_))))
      · refine step_mk [] rfl rfl (fun _ _ => rfl) ?_
        intro y w5 hC hd K hK
        have c5m := ((J4.out.up hC).bel.cell (p := ⟨b5, 0, none⟩) (cell_block_lt HF.out.c5)).trans HF.out.c5
        dsimp only at hK ⊢
        go_simp
        exact hK _ _ hC rfl (fun _ _ _ h => h)
      · refine step_mk [] rfl rfl (fun _ _ => rfl) ?_
        intro y w5 hC hd K hK
        obtain ⟨q0, q1, q2, q3, q4, q5, _⟩ := (OB.out.up hC).b
        dsimp only at hK ⊢
        go_simp
        exact hK _ _ hC rfl (fun _ _ _ h => h)
      · refine step_mk [1] rfl rfl (fun _ _ => rfl) ?_
        intro y w5 hC hd K hK
        have e1 : y 1 = _ := hd 1 (by simp)
        dsimp only at hK ⊢
        simp only [e1] at hK ⊢
        go_simp
        refine (show Calls Try.prog 52 _ _ (BPost (.agg #[.int .i64 o.cnt, .int .i64 o.rep]) _) from elementOf_any o _).mono ?_
        rintro e w2 ⟨rfl, hb⟩
        exact hK _ _ (up_call hC hb) rfl (fun j u _ h => flS_stab hb h)
      · refine step_mk [0, 2] rfl rfl (fun _ _ => rfl) ?_
        intro y w5 hC hd K hK
        have e0 : y 0 = _ := hd 0 (by simp)
        have e2 : y 2 = _ := hd 2 (by simp)
        obtain ⟨kl, hkl⟩ := keyEl o.el ook
        have hlk := (HF.out.m5.up (J4.out.up hC).bel).lookup lawEl Try.underlying70 (zB _) ook hkl
        unfold elV Sq.O.el at hlk
        dsimp only at hlk
        dsimp only at hK ⊢
        simp only [e0, e2] at hK ⊢
        go_simp
        exact hK _ _ hC rfl (fun _ _ _ h => h)
      · refine tail_mk rfl ?_
        intro y w5 hC hd K hK
        have e3 : y 3 = _ := hd 3 (by omega)
        dsimp only at hK ⊢
        simp only [e3] at hK ⊢
        go_simp
        refine hK _ _ ?_
        clear hK
        refine hKK _ _ ?_
        clear hKK
        have J5 := Lib.hid (J4.out.up hC)
        have OB5 := Lib.hid (OB.out.up hC)
        clear J4 OB
        cases hD : D o.el
        · rw [hD] at hln
          obtain ⟨v, hbx, how⟩ := J5.out.box
          have q0 := OB5.out.b.c5
          have hc1 := hbx.cell
          have hf1 := hbx.frozen
          have hln2 : part.length < 1000000 := by have := HLn.out; rw [hln] at this; simp at this; omega
          go_wp2_with (at_builtin; refine StopR.out ?_)
          refine ⟨?_⟩
          refine wp_appSG rfl _ _ rfl w1.heap.size v part o.line ⟨w5.heap.size, 0, none⟩ 1 rfl (ownS_up how (up_alloc (Below.refl _ _) _)) rfl (by simp) hln2 (by have := J5.out.bel.size; simp; omega) ?_
          intro v2 w6 own6 gr6
          obtain ⟨b1', b2', b3', b4', b5'⟩ := hbx.appended (by decide) how J5.out.bel.size (Nat.le_refl _) own6 gr6
          have hc2 := b1'.cell
          have hf2 := b1'.frozen
          obtain ⟨g', cap', rfl⟩ := ownsRow_succ (k := part.length) (by have := own6; unfold OwnS at this; rw [List.length_append] at this; exact this)
          go_wp2_with fail
          refine TL _ _ _ _ _ _ _ _ _ _ _ ?_ ?_
          · rw [hln]
            exact ⟨J5.out.bel.trans b5', ⟨_, b2', b3'⟩, ((J5.out.fn.alloc _).kept gr6 (J5.out.fn.not_row (by decide) how)).kept (grownBy_setCell' _ _ _) (by simp)⟩
          · have hlt5 := J5.out.bel.size
            refine OpBx.b ⟨?_⟩
            have hb0 := OB5.out.blk
            have hg0 := (Array.getElem?_eq_some_iff.1 hb0).1
            have hVb : w1.heap.size < V.heap.size := by have := hJ.out.fn.lt; omega
            rw [(grownBy_setCell' _ _ _).block _ (by have := gr6.size; simp at this; omega) (by simp; omega), gr6.block _ (by simp; omega) ?_, Below.heap_alloc _ _ _ hg0]
            · exact hb0
            · intro e
              rcases how.2 with ⟨rfl, _⟩ | ⟨q, _, _, rfl, _, hq, _⟩
              · simp [Value.ownBlock] at e
              · obtain rfl : V.heap.size = q := by simpa [Value.ownBlock] using e
                rw [hb0] at hq; cases hq
        · rw [hD] at hln
          simp at hln
          go_wp2_with fail
          refine TL _ _ _ _ _ _ _ _ _ _ _ ?_ OB5.out.b
          rw [hln, List.append_nil]
          exact J5.out
    · have hkl : k = (F x).length := by omega
      subst hkl
      have b1 : (((F x).length : Int) < ((F x).length : Int)) = False := by simp
      go_wp2_with fail
      go_end0
      refine ⟨rfl, ?_⟩
      have := hJ.out
      rwa [List.take_length] at this
/-- the lines behind an element, with all that follows it -/
def fwV (D : El → Bool) (F : El → List Sq.O) : Nat → El → List ByteArray
  | 0, _ => []
  | n + 1, x => (F x).flatMap fun o => (if D o.el then [] else [o.line]) ++ fwV D F n o.el
theorem follow_any {w1 : World} {b6 b5 mf md nf nd : Nat} {g : El → Value} {D : El → Bool} {F : El → List Sq.O} (hF : Fw w1 b6 b5 mf md nf nd g D F) (rk : El → Nat) (hrk : ∀ x, ∀ o ∈ F x, rk o.el < rk x) :
    ∀ (n : Nat) (x : El), elOk x → rk x ≤ n → ∀ vis w, FI w1 b6 b5 vis w → vis.length + (fwV D F n x).length ≤ 1000000 →
      Calls Try.prog 54 (#[elV x] ++ fwL b6 b5 w1.heap.size) w fun r w' => r = .returned (.tuple #[]) ∧ FI w1 b6 b5 (vis ++ fwV D F n x) w' := by
  intro n
  induction n with
  | zero =>
    intro x hx hr vis w hI hb
    have hnil : F x = [] := by
      cases h : F x with
      | nil => rfl
      | cons o r => have := hrk x o (by rw [h]; exact List.mem_cons_self); omega
    have := follow_step hF (fun _ => []) x hx (fun o ho => by rw [hnil] at ho; cases ho) vis w hI (by rw [hnil]; simp; unfold fwV at hb; simpa using hb)
    rw [hnil] at this
    exact this
  | succ n ih =>
    intro x hx hr vis w hI hb
    exact follow_step hF (fun o => fwV D F n o.el) x hx (fun o ho vis w hI hb => ih o.el (hF.ok x o ho).1 (by have := hrk x o ho; omega) vis w hI hb) vis w hI hb
end Go.Proofs.Ytidncnhhjfdifaa
