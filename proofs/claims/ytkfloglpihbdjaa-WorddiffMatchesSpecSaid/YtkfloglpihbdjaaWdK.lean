
/-
  The reference's Highlight, walked.
-/
import Derived.Test.YtkfloglpihbdjaaWdI
import Derived.Test.YtkfloglpihbdjaaWdJ
import Derived.Test.YtkfloglpihbdjaaWdC
import Derived.Test.YtkfloglpihbdjaaDifQ
namespace Go.Proofs.Ytkfloglpihbdjaa
open Go.RowKit
set_option maxRecDepth 4000

/-- two rows of marks of the call's own, in blocks of their own -/
structure Tb (base : Nat) (w : World) (vx vy : Value) (bx by' : List Bool) : Prop where
  ox : OwnE boE base w vx bx
  oy : OwnE boE base w vy by'
  ap : ∀ b, vx.ownBlock = some b → vy.ownBlock ≠ some b
theorem Tb.start (base : Nat) (w : World) : Tb base w (.slice none 0 0) (.slice none 0 0) [] [] := ⟨ownE_nil _ _ _, ownE_nil _ _ _, fun b h => by cases h⟩
theorem Tb.pushX {base : Nat} {w w2 : World} {vx vy v2 : Value} {bx by' : List Bool} (h : Tb base w vx vy bx by') (ob : Obj) (b : Bool) (own : OwnE boE base w2 v2 (bx ++ [b])) (gr : (w.alloc ob).grownBy w2 vx.ownBlock)
    (hat : v2.ownBlock = vx.ownBlock ∨ v2.ownBlock = some (w.alloc ob).heap.size) : Tb base w2 v2 vy (bx ++ [b]) by' := by
  refine ⟨own, World.ownsRow.kept (h.oy.alloc ob) gr ?_, fun c hc => ?_⟩
  · cases e : vy.ownBlock with
    | none => exact .inl rfl
    | some c => exact .inr (fun e' => h.ap c e'.symm e)
  · rcases hat with e | e
    · exact h.ap c (by rw [← e]; exact hc)
    · intro hy
      have := (own_block h.oy c hy).2
      rw [e] at hc
      have hc' := Option.some.inj hc
      rw [World.size_alloc] at hc'
      omega
theorem Tb.pushY {base : Nat} {w w2 : World} {vx vy v2 : Value} {bx by' : List Bool} (h : Tb base w vx vy bx by') (ob : Obj) (b : Bool) (own : OwnE boE base w2 v2 (by' ++ [b])) (gr : (w.alloc ob).grownBy w2 vy.ownBlock)
    (hat : v2.ownBlock = vy.ownBlock ∨ v2.ownBlock = some (w.alloc ob).heap.size) : Tb base w2 vx v2 bx (by' ++ [b]) := by
  refine ⟨World.ownsRow.kept (h.ox.alloc ob) gr ?_, own, fun c hc => ?_⟩
  · cases e : vx.ownBlock with
    | none => exact .inl rfl
    | some c => exact .inr (fun e' => h.ap c e e'.symm)
  · rcases hat with e | e
    · rw [e]; exact h.ap c hc
    · intro hy
      have := (own_block h.ox c hc).2
      rw [e] at hy
      have hy' := Option.some.inj hy
      rw [World.size_alloc] at hy'
      omega
/-- the marks of the first j bytes of a step -/
def pb (c k j : Nat) : List Bool := if k = 0 ∨ k = c then List.replicate j (k == c) else []
theorem pb_next (c k j : Nat) : pb c k (j + 1) = pb c k j ++ (if k = 0 ∨ k = c then [k == c] else []) := by
  unfold pb
  by_cases h : k = 0 ∨ k = c
  · rw [if_pos h, if_pos h, if_pos h, List.replicate_succ']
  · rw [if_neg h, if_neg h, if_neg h]; rfl
theorem pb_zero (c k : Nat) : pb c k 0 = [] := by unfold pb; split <;> rfl
theorem pb_len (c k j : Nat) : (pb c k j).length ≤ j := by unfold pb; split <;> simp
theorem bits_take (c : Nat) (l : List (Nat × ByteArray)) (i : Nat) (h : i < l.length) : Wd.bits c (l.take (i + 1)) = Wd.bits c (l.take i) ++ pb c l[i].1 l[i].2.size := by
  rw [List.take_succ_eq_append_getElem h]
  exact Wd.bits_snoc c (l.take i) l[i].1 l[i].2
theorem bits_len (c : Nat) (l : List (Nat × ByteArray)) (h : ∀ x ∈ l, x.2.size ≤ 80) : (Wd.bits c l).length ≤ 80 * l.length := by
  revert h
  refine Wd.snoc_rec (P := fun l => (∀ x ∈ l, x.2.size ≤ 80) → (Wd.bits c l).length ≤ 80 * l.length) (fun _ => Nat.le_refl _) (fun l x ih h => ?_) l
  have I := ih fun y hy => h y (List.mem_append_left _ hy)
  have hx := h x (List.mem_append_right _ (List.mem_singleton_self x))
  have e : Wd.bits c (l ++ [x]) = Wd.bits c l ++ pb c x.1 x.2.size := Wd.bits_snoc c l x.1 x.2
  have := pb_len c x.1 x.2.size
  rw [e, List.length_append, List.length_append, List.length_singleton]
  omega

def RhPost (s t : ByteArray) (w : World) (e : Ending) (w' : World) : Prop :=
  ∃ v1 v2, e = .returned (.tuple #[v1, v2]) ∧ OwnE prE w.heap.size w' v1 (Wd.rg 1 (Dif.al (Wd.tk s) (Wd.tk t))).full ∧ OwnE prE w.heap.size w' v2 (Wd.rg 2 (Dif.al (Wd.tk s) (Wd.tk t))).full ∧ Below w.heap.size w w'

set_option maxRecDepth 100000 in
set_option maxHeartbeats 8000000 in
theorem refHighlight_any (s t : ByteArray) (w : World) (hs : s.size ≤ 80) (ht : t.size ≤ 80) : Calls Try.prog 15 #[.string s, .string t] w (RhPost s t w) := by
  go_enter Try.func15, Try.ntmps15
  go_wp2_with fail
  refine (refTokens_any s _ (by omega)).mono ?_
  rintro e w1 ⟨v1, rfl, own1, hb1⟩
  obtain ⟨p1, c1, rfl, S1, -, -⟩ := toks_open (ownE_ofS own1) hs
  have T1 := Lib.hid S1
  have B1 := Lib.hid hb1
  clear own1 S1 hb1
  go_wp2_with fail
  refine (refTokens_any t _ (by omega)).mono ?_
  rintro e w2 ⟨v2, rfl, own2, hb2⟩
  obtain ⟨p2, c2, rfl, S2, -, -⟩ := toks_open (ownE_ofS own2) ht
  have T1b := Lib.hid (T1.out.mono hb2)
  have T2 := Lib.hid S2
  have B2 := Lib.hid (up_call B1.out hb2)
  have n1 := Wd.tk_len s
  have n2 := Wd.tk_len t
  clear own2 S2 hb2 T1 B1
  go_wp2_with fail
  refine (align_any p1 p2 (Wd.tk s) (Wd.tk t) _ _ c1 c2 _ rfl rfl T1b.out T2.out (by omega) (by omega)).mono ?_
  rintro e w3 ⟨v3, rfl, own3, hb3⟩
  obtain ⟨pl, cl, rfl, row, -, -, -⟩ := row_of_own own3
  have B3 := Lib.hid (up_call B2.out hb3)
  have hll := al_len (Wd.tk s) (Wd.tk t)
  have SM : Hid (∀ x ∈ Dif.al (Wd.tk s) (Wd.tk t), x.2.size ≤ 80) := Lib.hid (fun x hx => by
    rcases al_mem (Wd.tk s) (Wd.tk t) x hx with h | h
    · have := Wd.tk_size s _ h; omega
    · have := Wd.tk_size t _ h; omega)
  have KD := Lib.hid (Wd.al_kind (Wd.tk s) (Wd.tk t))
  have R1 := Lib.hid (Wd.rb_bits 1 (by decide) _ (Wd.al_pos s t))
  have R2 := Lib.hid (Wd.rb_bits 2 (by decide) _ (Wd.al_pos s t))
  have PO := Lib.hid (show ∀ v1 v2 w', OwnE prE w.heap.size w' v1 (Wd.rg 1 (Dif.al (Wd.tk s) (Wd.tk t))).full → OwnE prE w.heap.size w' v2 (Wd.rg 2 (Dif.al (Wd.tk s) (Wd.tk t))).full → Below w.heap.size w w' → RhPost s t w (.returned (.tuple #[v1, v2])) w' from fun v1 v2 w' h1 h2 h3 => ⟨v1, v2, rfl, h1, h2, h3⟩)
  obtain ⟨l, hl⟩ : ∃ l, l = Dif.al (Wd.tk s) (Wd.tk t) := ⟨_, rfl⟩
  rw [← hl] at row hll SM KD R1 R2 PO ⊢
  have RW := Lib.hid row
  have lb : l.length ≤ 160 := by omega
  clear own3 row hb3 T1b T2 B2 hl hll n1 n2
  go_wp2_with fail
  go_loopw [7, 8, 9] (fun x y i wr => ∃ k : Nat, k ≤ l.length ∧ i = .int .i64 k ∧ Hid (Tb w3.heap.size wr x y (Wd.bits 1 (l.take k)) (Wd.bits 2 (l.take k))) ∧ Hid (Below w3.heap.size w3 wr)) (fun _ _ i _ => l.length - (intOf i).toNat)
  case atStart => exact ⟨0, Nat.zero_le _, rfl, Lib.hid (Tb.start _ _), Lib.hid (Below.refl _ _)⟩
  case round =>
    obtain ⟨k, hk, rfl, hT, hB⟩ := hrel
    have b7 : (0 : Int) ≤ (k : Int) := by omega
    by_cases hlt : k < l.length
    · have b8 : (k : Int) < (l.length : Int) := by omega
      obtain ⟨bb, off, rfl, hbb, hc⟩ := RW.out.cell hlt
      obtain ⟨c0, c1⟩ := row_step hlt hc
      have hkd := KD.out _ (List.getElem_mem hlt)
      have hsz := SM.out _ (List.getElem_mem hlt)
      have N1 := Lib.hid (bits_take 1 l k hlt)
      have N2 := Lib.hid (bits_take 2 l k hlt)
      have M1 := bits_len 1 (l.take k) (fun x hx => SM.out x (List.mem_of_mem_take hx))
      have M2 := bits_len 2 (l.take k) (fun x hx => SM.out x (List.mem_of_mem_take hx))
      rw [List.length_take] at M1 M2
      obtain ⟨⟨kd, x⟩, hx⟩ : ∃ y, y = l[k] := ⟨_, rfl⟩
      rw [← hx] at c0 c1 hkd hsz N1 N2
      dsimp only at c0 c1 hkd hsz N1 N2
      obtain ⟨bx, hbx⟩ : ∃ b, b = Wd.bits 1 (l.take k) := ⟨_, rfl⟩
      obtain ⟨by', hby⟩ : ∃ b, b = Wd.bits 2 (l.take k) := ⟨_, rfl⟩
      rw [← hbx] at hT N1 M1
      rw [← hby] at hT N2 M2
      have C1 := Lib.hid c1
      have C0 := Lib.hid c0
      have c1' := (hB.out.cell (p := ⟨bb, off + k * 2 + 1, none⟩) hbb).trans c1
      obtain ⟨V, hV⟩ : ∃ V, V = wr := ⟨_, rfl⟩
      rw [← hV] at hT hB c1' ⊢
      clear hc c0 c1 hx hbx hby hV
      go_wp2_with fail
      go_loopw [7, 8, 10] (fun x' y' i wr => ∃ j : Nat, j ≤ x.size ∧ i = .int .i64 j ∧ Hid (Tb w3.heap.size wr x' y' (bx ++ pb 1 kd j) (by' ++ pb 2 kd j)) ∧ Hid (Below w3.heap.size w3 wr)) (fun _ _ i _ => x.size - (intOf i).toNat)
      case atStart => exact ⟨0, Nat.zero_le _, rfl, Lib.hid (by rw [pb_zero, pb_zero, List.append_nil, List.append_nil]; exact hT.out), hB⟩
      case round =>
        obtain ⟨j, hj, rfl, T0, B0⟩ := hrel
        have e1 := (B0.out.cell (p := ⟨bb, off + k * 2 + 1, none⟩) hbb).trans C1.out
        have b9 : (0 : Int) ≤ (j : Int) := by omega
        by_cases hjx : j < x.size
        · have g1 : decide (j < x.size) = true := decide_eq_true hjx
          have q1 := pb_len 1 kd j
          have q2 := pb_len 2 kd j
          have r1 : (bx ++ pb 1 kd j).length ≤ 100000 := by rw [List.length_append]; omega
          have r2 : (by' ++ pb 2 kd j).length ≤ 100000 := by rw [List.length_append]; omega
          have hkd3 : kd = 0 ∨ kd = 1 ∨ kd = 2 := by omega
          clear hkd
          rcases hkd3 with rfl | rfl | rfl
          · have C0' : Hid (w3.cell? ⟨bb, off + k * 2, none⟩ = some (.int .i64 0)) := Lib.hid C0.out
            have c0' := (B0.out.cell (p := ⟨bb, off + k * 2, none⟩) hbb).trans C0'.out
            have PX' : bx ++ pb 1 0 (j + 1) = bx ++ pb 1 0 j ++ [false] := by rw [pb_next, List.append_assoc]; rfl
            have PY' : by' ++ pb 2 0 (j + 1) = by' ++ pb 2 0 j ++ [false] := by rw [pb_next, List.append_assoc]; rfl
            have PX := Lib.hid PX'
            have PY := Lib.hid PY'
            clear PX' PY'
            go_wp2_with (first | (at_builtin; refine wp_appE_at boE rfl (.tmp 38) (.tmp 45) rfl w3.heap.size _ (bx ++ pb 1 0 j) false _ _ rfl (T0.out.ox.alloc _) rfl (bo_one _ _ rfl false _) (by simp [boE]; omega) (by omega) (by have := B0.out.size; simp; omega) ?_; intro vX wX ownX grX hatX; have BX := Lib.hid ((up_alloc B0.out (.cells #[.bool false] 4 (0, 0))).grown grX (by have := B0.out.size; simp; omega) fun k hk => (own_block T0.out.ox k hk).1); have TX := Lib.hid (T0.out.pushX (.cells #[.bool false] 4 (0, 0)) false ownX grX hatX); have d0X := (BX.out.cell (p := ⟨bb, off + k * 2, none⟩) hbb).trans C0'.out; have d1X := (BX.out.cell (p := ⟨bb, off + k * 2 + 1, none⟩) hbb).trans C1.out) | (at_builtin; refine wp_appE_at boE rfl (.tmp 53) (.tmp 60) rfl w3.heap.size _ (by' ++ pb 2 0 j) false _ _ rfl (TX.out.oy.alloc _) rfl (bo_one _ _ rfl false _) (by simp [boE]; omega) (by omega) (by have := BX.out.size; simp; omega) ?_; intro vY wY ownY grY hatY; have BY := Lib.hid ((up_alloc BX.out (.cells #[.bool false] 4 (0, 0))).grown grY (by have := BX.out.size; simp; omega) fun k hk => (own_block TX.out.oy k hk).1); have TY := Lib.hid (TX.out.pushY (.cells #[.bool false] 4 (0, 0)) false ownY grY hatY); have d0Y := (BY.out.cell (p := ⟨bb, off + k * 2, none⟩) hbb).trans C0'.out; have d1Y := (BY.out.cell (p := ⟨bb, off + k * 2 + 1, none⟩) hbb).trans C1.out))
            go_roundw
            case rel => exact ⟨j + 1, hjx, by go_num, Lib.hid (by rw [PX.out, PY.out]; simpa using TY.out), BY⟩
            case measure => first | (simp [intOf]; done) | (simp [intOf]; omega)
          · have C0' : Hid (w3.cell? ⟨bb, off + k * 2, none⟩ = some (.int .i64 1)) := Lib.hid C0.out
            have c0' := (B0.out.cell (p := ⟨bb, off + k * 2, none⟩) hbb).trans C0'.out
            have PX' : bx ++ pb 1 1 (j + 1) = bx ++ pb 1 1 j ++ [true] := by rw [pb_next, List.append_assoc]; rfl
            have PY' : by' ++ pb 2 1 (j + 1) = by' ++ pb 2 1 j ++ [] := by rw [pb_next, List.append_assoc]; rfl
            have PX := Lib.hid PX'
            have PY := Lib.hid PY'
            clear PX' PY'
            go_wp2_with (at_builtin; refine wp_appE_at boE rfl (.tmp 38) (.tmp 45) rfl w3.heap.size _ (bx ++ pb 1 1 j) true _ _ rfl (T0.out.ox.alloc _) rfl (bo_one _ _ rfl true _) (by simp [boE]; omega) (by omega) (by have := B0.out.size; simp; omega) ?_; intro vX wX ownX grX hatX; have BX := Lib.hid ((up_alloc B0.out (.cells #[.bool true] 4 (0, 0))).grown grX (by have := B0.out.size; simp; omega) fun k hk => (own_block T0.out.ox k hk).1); have TX := Lib.hid (T0.out.pushX (.cells #[.bool true] 4 (0, 0)) true ownX grX hatX); have d0X := (BX.out.cell (p := ⟨bb, off + k * 2, none⟩) hbb).trans C0'.out; have d1X := (BX.out.cell (p := ⟨bb, off + k * 2 + 1, none⟩) hbb).trans C1.out)
            go_roundw
            case rel => exact ⟨j + 1, hjx, by go_num, Lib.hid (by rw [PX.out, PY.out]; simpa using TX.out), BX⟩
            case measure => first | (simp [intOf]; done) | (simp [intOf]; omega)
          · have C0' : Hid (w3.cell? ⟨bb, off + k * 2, none⟩ = some (.int .i64 2)) := Lib.hid C0.out
            have c0' := (B0.out.cell (p := ⟨bb, off + k * 2, none⟩) hbb).trans C0'.out
            have PX' : bx ++ pb 1 2 (j + 1) = bx ++ pb 1 2 j ++ [] := by rw [pb_next, List.append_assoc]; rfl
            have PY' : by' ++ pb 2 2 (j + 1) = by' ++ pb 2 2 j ++ [true] := by rw [pb_next, List.append_assoc]; rfl
            have PX := Lib.hid PX'
            have PY := Lib.hid PY'
            clear PX' PY'
            go_wp2_with (at_builtin; refine wp_appE_at boE rfl (.tmp 53) (.tmp 60) rfl w3.heap.size _ (by' ++ pb 2 2 j) true _ _ rfl (T0.out.oy.alloc _) rfl (bo_one _ _ rfl true _) (by simp [boE]; omega) (by omega) (by have := B0.out.size; simp; omega) ?_; intro vY wY ownY grY hatY; have BY := Lib.hid ((up_alloc B0.out (.cells #[.bool true] 4 (0, 0))).grown grY (by have := B0.out.size; simp; omega) fun k hk => (own_block T0.out.oy k hk).1); have TY := Lib.hid (T0.out.pushY (.cells #[.bool true] 4 (0, 0)) true ownY grY hatY); have d0Y := (BY.out.cell (p := ⟨bb, off + k * 2, none⟩) hbb).trans C0'.out; have d1Y := (BY.out.cell (p := ⟨bb, off + k * 2 + 1, none⟩) hbb).trans C1.out)
            go_roundw
            case rel => exact ⟨j + 1, hjx, by go_num, Lib.hid (by rw [PX.out, PY.out]; simpa using TY.out), BY⟩
            case measure => first | (simp [intOf]; done) | (simp [intOf]; omega)
        · obtain rfl : j = x.size := by omega
          have g1 : decide (x.size < x.size) = false := decide_eq_false (Nat.lt_irrefl _)
          go_wp2_with fail
          go_roundw
          case rel => exact ⟨k + 1, hlt, by go_num, Lib.hid (by rw [N1.out, N2.out]; exact T0.out), B0⟩
          case measure => first | (simp [intOf]; done) | (simp [intOf]; omega)
    · obtain rfl : k = l.length := by omega
      rw [List.take_length] at hT
      have M1 := bits_len 1 l SM.out
      have M2 := bits_len 2 l SM.out
      obtain ⟨px, cx, rfl, rx, -, -, -⟩ := row_of_own hT.out.ox
      obtain ⟨py, cy, rfl, ry, -, -, -⟩ := row_of_own hT.out.oy
      have RX := Lib.hid rx
      have RY := Lib.hid ry
      have B4 := Lib.hid (up_call B3.out hB.out)
      clear rx ry hT
      go_wp2_with fail
      refine (refRanges_any px (Wd.bits 1 l) _ cx _ rfl RX.out (by omega)).mono ?_
      rintro e w5 ⟨v5, rfl, own5, hb5⟩
      rw [R1.out] at own5
      have RY5 := Lib.hid (RY.out.mono hb5)
      have B5 := Lib.hid (up_call B4.out hb5)
      have O5 := Lib.hid (own5.le (base' := w.heap.size) B4.out.size)
      clear own5 hb5
      go_wp2_with fail
      refine (refRanges_any py (Wd.bits 2 l) _ cy _ rfl RY5.out (by omega)).mono ?_
      rintro e w6 ⟨v6, rfl, own6, hb6⟩
      rw [R2.out] at own6
      have O6 := Lib.hid (own6.le (base' := w.heap.size) B5.out.size)
      have O5b := Lib.hid (O5.out.up hb6)
      have B6 := Lib.hid (up_call B5.out hb6)
      clear own6 hb6
      go_wp2_with fail
      refine bodyPost_ret (v := .tuple #[v5, v6]) (by simp [results, Try.results15, go_sem]) rfl (PO.out _ _ _ O5b.out O6.out B6.out)
end Go.Proofs.Ytkfloglpihbdjaa
