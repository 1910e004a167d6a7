
/-
  Package sequence: Visible, up to the loop.
-/
import Derived.Test.YtidncnhhjfdifaaSqM
namespace Go.Proofs.Ytidncnhhjfdifaa
open Go.RowKit Go.Shelf
set_option maxRecDepth 4000
attribute [local go_sem] Oper.semAt_some

theorem ownE_up {α : Type} {e : Enc α} {base : Nat} {w w' : World} {v : Value} {l : List α} (h : OwnE e base w v l) (hb : Below w.heap.size w w') : OwnE e base w' v l := by
  obtain ⟨h1, h2 | ⟨g, cap, cur, e, hg, hc, r⟩⟩ := h
  · exact ⟨h1, .inl h2⟩
  · exact ⟨h1, .inr ⟨g, cap, cur, e, hg, by rw [hb.block g (Array.getElem?_eq_some_iff.1 hc).1]; exact hc, r⟩⟩
/-- the slots of the region that marks a deletion -/
def vdS (md : Nat) (o : Sq.O) : Nat → Value → World → Prop
  | 0, v, _ => v = .map (some md)
  | 1, v, _ => v = .agg #[.bool true, .int .i64 o.rep, .int .i64 o.cnt, .int .i64 o.arep, .int .i64 o.acnt, .string o.line]
  | 2, v, _ => v = .agg #[.int .i64 o.cnt, .int .i64 o.rep]
  | _, _, _ => True
theorem vdS_stab {md : Nat} {o : Sq.O} {w w' : World} (_ : Below w.heap.size w w') : ∀ {j : Nat} {v : Value}, vdS md o j v w → vdS md o j v w'
  | 0, _, h | 1, _, h | 2, _, h => h
  | _ + 3, _, _ => trivial
/-- the slots of the region that notes a follower -/
def viS (W2 : World) (mf B : Nat) (v0 : Value) (fl : List Sq.O) (o : Sq.O) : Nat → Value → World → Prop
  | 0, v, _ => v = .map (some mf)
  | 1, v, _ => v = .agg #[.bool false, .int .i64 o.rep, .int .i64 o.cnt, .int .i64 o.arep, .int .i64 o.acnt, .string o.line]
  | 2, v, _ => v = .agg #[.int .i64 o.acnt, .int .i64 o.arep]
  | 3, v, _ => v = .map (some mf)
  | 4, v, _ => v = .agg #[.bool false, .int .i64 o.rep, .int .i64 o.cnt, .int .i64 o.arep, .int .i64 o.acnt, .string o.line]
  | 5, v, _ => v = .agg #[.int .i64 o.acnt, .int .i64 o.arep]
  | 6, v, _ => v = v0
  | 7, v, _ => v = .agg #[.bool false, .int .i64 o.rep, .int .i64 o.cnt, .int .i64 o.arep, .int .i64 o.acnt, .string o.line]
  | 8, v, w => ∃ b, W2.heap.size ≤ b ∧ v = .slice (some ⟨b, 0, none⟩) 1 1 ∧ w.heap[b]? = some (.cells #[.bool false, .int .i64 o.rep, .int .i64 o.cnt, .int .i64 o.arep, .int .i64 o.acnt, .string o.line] 53 (0, 0))
  | 9, v, w => OwnE opE B w v (fl ++ [o]) ∧ (v.ownBlock = v0.ownBlock ∨ ∃ q, v.ownBlock = some q ∧ W2.heap.size ≤ q)
  | _, _, _ => True
theorem viS_stab {W2 : World} {mf B : Nat} {v0 : Value} {fl : List Sq.O} {o : Sq.O} {w w' : World} (hb : Below w.heap.size w w') : ∀ {j : Nat} {v : Value}, viS W2 mf B v0 fl o j v w → viS W2 mf B v0 fl o j v w'
  | 0, _, h | 1, _, h | 2, _, h | 3, _, h | 4, _, h | 5, _, h | 6, _, h | 7, _, h => h
  | 8, _, ⟨b, h1, h2, h3⟩ => ⟨b, h1, h2, (hb.block _ (Array.getElem?_eq_some_iff.1 h3).1).trans h3⟩
  | 9, _, ⟨h1, h2⟩ => ⟨ownE_up h1 hb, h2⟩
  | _ + 10, _, _ => trivial
theorem viS_app {W2 : World} {mf B : Nat} {v0 : Value} {fl : List Sq.O} {o : Sq.O} {w w' : World} (hg : w.grownBy w' v0.ownBlock) (hq : ∀ q, v0.ownBlock = some q → q < W2.heap.size) : ∀ {j : Nat} {v : Value}, j ≠ 9 → viS W2 mf B v0 fl o j v w → viS W2 mf B v0 fl o j v w'
  | 0, _, _, h | 1, _, _, h | 2, _, _, h | 3, _, _, h | 4, _, _, h | 5, _, _, h | 6, _, _, h | 7, _, _, h => h
  | 8, _, _, ⟨b, h1, h2, h3⟩ => ⟨b, h1, h2, (hg.block _ (Array.getElem?_eq_some_iff.1 h3).1 (fun e => by have := hq b e.symm; omega)).trans h3⟩
  | 9, _, h, _ => (h rfl).elim
  | _ + 10, _, _, _ => trivial
def viC (W2 : World) (B : Nat) (v : Value) (fl : List Sq.O) (b : Bool) (w : World) : Prop := W2.grownBy w v.ownBlock ∧ (b = false → OwnE opE B w v fl)
theorem viC.or {W2 : World} {B : Nat} {v : Value} {fl : List Sq.O} {b : Bool} {w : World} (h : viC W2 B v fl b w) : viC W2 B v fl (b || false) w := (Bool.or_false b).symm ▸ h
theorem viC.up {W2 : World} {B : Nat} {v : Value} {fl : List Sq.O} {b : Bool} {w w' : World} (h : viC W2 B v fl b w) (hb : Below w.heap.size w w') : viC W2 B v fl (b || false) w' :=
  ⟨gby_below h.1 hb, fun e => ownE_up (h.2 (by simpa using e)) hb⟩
theorem step_appI {F : Fence} {n : Nat} {o : Oper} {a : Act} {w : World} {K : Act → World → Prop} {Q : Exit → Act → World → Prop} (s x : Operand) (hop : o.op = .call { callee := .builtin .append, args := #[s, x], argTypes := #[41, 41] })
    (base : Nat) (v : Value) (l : List Sq.O) (y : Sq.O) (ad : Addr) (cap : Nat) (hs : a.eval s = v) (hown : OwnE opE base w v l) (hx : a.eval x = .slice (some ad) 1 cap)
    (hp : ∀ k u, (opE.enc y)[k]? = some u → w.cell? (ad.add k) = some u) (hlen : l.length ≤ 1000000) (hbase : base ≤ w.heap.size)
    (hK : ∀ v' w', OwnE opE base w' v' (l ++ [y]) → w.grownBy w' v.ownBlock → (v'.ownBlock = v.ownBlock ∨ v'.ownBlock = some w.heap.size) → K (a.put o.dst v') w') : Oper.wpIn F n Try.prog o a w K Q := by
  obtain ⟨i0, hi, hz0, hz1, hz2⟩ := info_parts opE.inf
  obtain ⟨v', w', hrun, r1, r2, _, r4⟩ := run_append_own_at (P := Try.prog) (w := w) base 41 o.type 53 i0 opE.z 6 56 Try.underlying41 hi hz0 hz1 hz2 rfl (by decide) v l.length (l.flatMap opE.enc) hown ad 1 cap (opE.enc y) rfl hp (opE.one y) (by unfold maxLen; omega) (by omega) hbase
  unfold Oper.wpIn
  refine ⟨?_, ?_⟩
  · simp [Oper.about, hop, resolve, Target.leads, Sem.run_pure]
  · rw [Oper.semAt_plain F _ _ (by rw [hop]; intro c hc'; cases hc')]
    simp [execOp, hop, resolve, invoke, builtin, hs, hx, hrun, Result.andThen]
    refine hK _ _ ?_ r2 r4
    unfold OwnE
    rw [List.length_append, List.flatMap_append, show [y].flatMap opE.enc = opE.enc y by simp]
    exact r1
theorem blk_at {w : World} {b : Nat} {o : Sq.O} (hd : o.del = false) (h : w.heap[b]? = some (.cells #[.bool false, .int .i64 o.rep, .int .i64 o.cnt, .int .i64 o.arep, .int .i64 o.acnt, .string o.line] 53 (0, 0))) (k : Nat) (u : Value) (hu : (opE.enc o)[k]? = some u) :
    w.cell? ((⟨b, 0, none⟩ : Addr).add k) = some u := by
  rw [add_at, Nat.zero_add]
  simp only [World.cell?, h]
  simpa [opE, Sq.O.enc, hd] using hu
theorem own_off {B : Nat} {W : World} {v : Value} {l : List Sq.O} (h : OwnE opE B W v l) {m : Nat} (hm : m < B) : v.ownBlock = none ∨ v.ownBlock ≠ some m := by
  rcases h.2 with ⟨e, _⟩ | ⟨q, _, _, e, hq, _⟩
  · exact .inl (by rw [e]; rfl)
  · refine .inr ?_
    rw [e]
    simp [Value.ownBlock]
    omega
theorem ownS_nil (w : World) (base : Nat) : OwnS base w (.slice none 0 0) [] := World.ownsRow_nil _ _ _ _
theorem fin_cells {w : World} {g D : Nat} {c i : Int} (h : Flt w g c i) (hD : w.heap[D]? = some (.deferred (some []))) :
    (w.putObj D (.deferred none)).cell? ⟨g, 0, none⟩ = some (.int .i64 c) ∧ (w.putObj D (.deferred none)).cell? ⟨g, 1, none⟩ = some (.int .i64 i) :=
  ⟨cell_kept h.c0 (grownBy_putObj' w D _) (fun r e => by cases e; exact ⟨_, hD, rfl⟩), cell_kept h.c1 (grownBy_putObj' w D _) (fun r e => by cases e; exact ⟨_, hD, rfl⟩)⟩
namespace Sq
/-- with all sorted out -/
def De (S : List O) (x : El) : Bool := decide (x ∈ dls S S.length)
def Fo (S : List O) (x : El) : List O := fls S S.length x
theorem Fo_mem {S : List O} {x : El} {o : O} (h : o ∈ Fo S x) : o ∈ S ∧ o.del = false ∧ o.pr = x := by
  unfold Fo fls Qk at h
  rw [List.mem_filter] at h
  obtain ⟨h1, h2⟩ := h
  rw [List.take_of_length_le (by simp), List.mem_reverse] at h1
  simp at h2
  exact ⟨h1, h2.1, h2.2⟩
/-- how many operations have greater elements -/
def rk (S : List O) (x : El) : Nat := S.countP fun o => decide (cmpE x o.el < 0)
theorem countP_lt {α : Type} {p q : α → Bool} : ∀ {l : List α}, (∀ a ∈ l, p a = true → q a = true) → (∃ a ∈ l, q a = true ∧ p a = false) → l.countP p < l.countP q
  | [], _, ⟨_, h, _⟩ => by cases h
  | a :: r, h1, h2 => by
    rw [List.countP_cons, List.countP_cons]
    have hle : r.countP p ≤ r.countP q := List.countP_mono_left (fun x hx => h1 x (List.mem_cons_of_mem _ hx))
    obtain ⟨b, hb, hq, hp⟩ := h2
    rcases List.mem_cons.1 hb with rfl | hb
    · rw [hq, hp]; simp; omega
    · have := countP_lt (fun x hx => h1 x (List.mem_cons_of_mem _ hx)) ⟨b, hb, hq, hp⟩
      cases hpa : p a with
      | true => rw [h1 a List.mem_cons_self hpa]; simp; omega
      | false => simp; split <;> omega
theorem pr_lt {o : O} (h : oC o = 0) (hd : o.del = false) : cmpE o.pr o.el < 0 := by
  have h' := h
  unfold oC at h
  rw [if_pos (oC_in h'), if_neg (by rw [hd]; simp)] at h
  unfold iC at h
  split at h
  · omega
  · split at h
    · omega
    · omega
theorem rk_lt {S : List O} (hS : ∀ o ∈ S, oC o = 0) (x : El) (o : O) (ho : o ∈ Fo S x) : rk S o.el < rk S x := by
  obtain ⟨h1, h2, h3⟩ := Fo_mem ho
  have hlt := pr_lt (hS o h1) h2
  rw [h3] at hlt
  refine countP_lt (fun a _ h => ?_) ⟨o, h1, decide_eq_true hlt, ?_⟩
  · rw [decide_eq_true_eq] at h ⊢
    rw [cmpE_neg] at *
    omega
  · rw [decide_eq_false_iff_not, cmpE_neg]; omega
/-- the visible lines -/
def vw (S : List O) : List ByteArray := fwV (De S) (Fo S) (rk S (0, 0)) (0, 0)
theorem vC_zero {l : List O} (h : vC l = 0) : l.length ≤ 60 ∧ (∀ j, j < l.length → cd l j = 0) ∧ (∀ j, j < l.length → ms l j = false) ∧ vI l = 0 := by
  unfold vC at h
  split at h
  · omega
  · rename_i h60
    split at h
    · rename_i k e
      have hk := List.find?_some e
      simp at hk
      exact (hk h).elim
    · rename_i e
      split at h
      · omega
      · rename_i e2
        have a1 : ∀ j, j < l.length → cd l j = 0 := fun j hj => by
          have := List.find?_eq_none.1 e j (List.mem_range.2 hj)
          simpa using this
        have a2 : ∀ j, j < l.length → ms l j = false := fun j hj => by
          have := List.find?_eq_none.1 e2 j (List.mem_range.2 hj)
          simpa using this
        exact ⟨by omega, a1, a2, (vC_ok h60 a1 a2).2⟩
theorem all_ok {l : List O} (h : vC l = 0) (o : O) (ho : o ∈ l) : oC o = 0 := by
  obtain ⟨i, hi, rfl⟩ := List.getElem_of_mem ho
  exact cd_code hi ((vC_zero h).2.1 i hi)
end Sq
theorem Mp.nocell {κ : Type} {P : Program} {k : TypeId} {enc : κ → Value} {ok : κ → Prop} {z : Value} {w : World} {b n : Nat} {g : κ → Value} (h : Mp P k enc ok z w b n g) (o : Nat) : w.cell? ⟨b, o, none⟩ = none := by
  obtain ⟨D, ⟨es, clock, hb, _⟩, _⟩ := h
  simp [World.cell?, hb]
set_option maxRecDepth 100000 in
set_option maxHeartbeats 8000000 in
theorem visible_any (p : Option Addr) (l : List Sq.O) (cap : Nat) (w : World) (hp : Row opE w p l) (hl : l.length ≤ 2513169434845) (hs : ∀ o ∈ l, o.line.size ≤ 140737488351232) (hok : Sq.vC l = 0) (hbd : ∀ S, S.Perm l → Sq.Srt S → (Sq.vw S).length ≤ 1000000) :
    Calls Try.prog 23 #[.slice p l.length cap] w fun e w' => ∃ v S, e = .returned (.tuple #[v, .agg #[.int .i64 0, .int .i64 0]]) ∧ S.Perm l ∧ Sq.Srt S ∧ OwnS w.heap.size w' v (Sq.vw S) ∧ Below w.heap.size w w' := by
  obtain ⟨hlen, -, -, evi⟩ := Sq.vC_zero hok
  have hnd : ∀ o ∈ l, elOk o.nd := fun o ho => Sq.nd_ok (Sq.all_ok hok o ho)
  have HBD := Lib.hid hbd
  clear hbd
  have up0 : Below w.heap.size w (w.alloc (.cells #[.int .i64 0, .int .i64 0] 24 (0, 0))) := up_alloc (Below.refl _ _) _
  have HP := Lib.hid hp
  have HS := Lib.hid hs
  have hmm := @run_makeMap Try.prog
  clear hp hs
  refine (callsIn_wide (n := 9)).1 ?_
  refine callsIn_of_wp_marks Try.func23 rfl trivial ?_ rfl
  simp only [Try.ntmps23, List.size_toArray, List.length_cons, List.length_nil, Nat.reduceAdd, Nat.reduceSub, Array.replicate_succ, Array.replicate_zero, List.push_toArray, List.append_toArray, List.nil_append, List.cons_append]
  gi_wp2_with fail
  refine ⟨trivial, ?_⟩
  refine (callsIn_wide.2 (sqValidate_any p l cap _ (HP.out.mono up0) hl HS.out)).mono ?_
  rintro e w2 ⟨rfl, hb2⟩
  rw [hok, evi]
  gi_wp2_with fail
  have u5 : Below w2.heap.size w2 (((((w2.alloc (.cells #[.int .i64 0, .int .i64 0] 24 (0, 0))).alloc (.map #[] 0)).alloc (.cells #[.map (some (w2.heap.size + 1))] 70)).alloc (.map #[] 0)).alloc (.cells #[.map (some (w2.heap.size + 1 + 1 + 1))] 71)) := up_alloc (up_alloc (up_alloc (up_alloc (up_alloc (Below.refl _ _) _) _) _) _) _
  have M5 : Mp Try.prog 77 elV elOk (.bool false) (((((w2.alloc (.cells #[.int .i64 0, .int .i64 0] 24 (0, 0))).alloc (.map #[] 0)).alloc (.cells #[.map (some (w2.heap.size + 1))] 70)).alloc (.map #[] 0)).alloc (.cells #[.map (some (w2.heap.size + 1 + 1 + 1))] 71)) (w2.heap.size + 1) 0 (fun _ => .bool false) := by
    have := Mp.made (P := Try.prog) (k := 77) (enc := elV) (ok := elOk) (z := .bool false) (w2.alloc (.cells #[.int .i64 0, .int .i64 0] 24 (0, 0)))
    rw [World.size_alloc] at this
    exact this.up (up_alloc (up_alloc (up_alloc (Below.refl _ _) _) _) _)
  have M6 : Mp Try.prog 77 elV elOk (.slice none 0 0) (((((w2.alloc (.cells #[.int .i64 0, .int .i64 0] 24 (0, 0))).alloc (.map #[] 0)).alloc (.cells #[.map (some (w2.heap.size + 1))] 70)).alloc (.map #[] 0)).alloc (.cells #[.map (some (w2.heap.size + 1 + 1 + 1))] 71)) (w2.heap.size + 1 + 1 + 1) 0 (fun _ => .slice none 0 0) := by
    have := Mp.made (P := Try.prog) (k := 77) (enc := elV) (ok := elOk) (z := .slice none 0 0) (((w2.alloc (.cells #[.int .i64 0, .int .i64 0] 24 (0, 0))).alloc (.map #[] 0)).alloc (.cells #[.map (some (w2.heap.size + 1))] 70))
    simp only [World.size_alloc] at this
    exact this.up (up_alloc (Below.refl _ _) _)
  have X5 : Boxed (((((w2.alloc (.cells #[.int .i64 0, .int .i64 0] 24 (0, 0))).alloc (.map #[] 0)).alloc (.cells #[.map (some (w2.heap.size + 1))] 70)).alloc (.map #[] 0)).alloc (.cells #[.map (some (w2.heap.size + 1 + 1 + 1))] 71)) (w2.heap.size + 1 + 1) 70 (.map (some (w2.heap.size + 1))) := by
    have := Boxed.new ((w2.alloc (.cells #[.int .i64 0, .int .i64 0] 24 (0, 0))).alloc (.map #[] 0)) 70 (.map (some (w2.heap.size + 1)))
    simp only [World.size_alloc] at this
    exact (this.alloc _).alloc _
  have X6 : Boxed (((((w2.alloc (.cells #[.int .i64 0, .int .i64 0] 24 (0, 0))).alloc (.map #[] 0)).alloc (.cells #[.map (some (w2.heap.size + 1))] 70)).alloc (.map #[] 0)).alloc (.cells #[.map (some (w2.heap.size + 1 + 1 + 1))] 71)) (w2.heap.size + 1 + 1 + 1 + 1) 71 (.map (some (w2.heap.size + 1 + 1 + 1))) := by
    have := Boxed.new ((((w2.alloc (.cells #[.int .i64 0, .int .i64 0] 24 (0, 0))).alloc (.map #[] 0)).alloc (.cells #[.map (some (w2.heap.size + 1))] 70)).alloc (.map #[] 0)) 71 (.map (some (w2.heap.size + 1 + 1 + 1)))
    simp only [World.size_alloc] at this
    exact this
  generalize hW5 : ((((w2.alloc (.cells #[.int .i64 0, .int .i64 0] 24 (0, 0))).alloc (.map #[] 0)).alloc (.cells #[.map (some (w2.heap.size + 1))] 70)).alloc (.map #[] 0)).alloc (.cells #[.map (some (w2.heap.size + 1 + 1 + 1))] 71) = W5 at u5 M5 M6 X5 X6 ⊢
  have z5 : W5.heap.size = w2.heap.size + 5 := by rw [← hW5]; simp
  obtain ⟨md, hmd⟩ : ∃ n, n = w2.heap.size + 1 := ⟨_, rfl⟩
  obtain ⟨b5, hb5⟩ : ∃ n, n = w2.heap.size + 1 + 1 := ⟨_, rfl⟩
  obtain ⟨mf, hmf⟩ : ∃ n, n = w2.heap.size + 1 + 1 + 1 := ⟨_, rfl⟩
  obtain ⟨b6, hb6⟩ : ∃ n, n = w2.heap.size + 1 + 1 + 1 + 1 := ⟨_, rfl⟩
  rw [← hb6, ← hmf] at X6
  rw [← hb5, ← hmd] at X5
  rw [← hmd] at M5
  rw [← hmf] at M6
  rw [← hb6, ← hmf, ← hb5, ← hmd]
  have k1 : md < b5 ∧ b5 < mf ∧ mf < b6 ∧ b6 < W5.heap.size := by omega
  have kmd : w2.heap.size < md := by omega
  clear hW5 hmd hb5 hmf hb6 hmm
  have B5 := Lib.hid (up_call (up_call up0 hb2) u5)
  have BV5 := up_call hb2 u5
  refine ⟨trivial, ?_⟩
  refine (callsIn_wide.2 (ordered_any p l cap (by omega) W5 (HP.out.mono B5.out))).mono ?_
  rintro e w3 ⟨v, S, rfl, hP, hSo, hO, hb3⟩
  obtain ⟨ps, cs, rfl, hrow, -, -, -⟩ := row_of_own hO
  have HRow := Lib.hid hrow
  have HPm := Lib.hid hP
  have HSo := Lib.hid hSo
  have hSl : S.length ≤ 60 := by rw [hP.length_eq]; exact hlen
  clear hrow hP hSo hO
  gi_wp2_with fail
  refine ⟨trivial, ?_⟩
  refine (callsIn_wide.2 (backward_mk ps S.length cs w3)).mono ?_
  rintro e w4 ⟨rfl, rfl⟩
  have ub := up_alloc (Below.refl w3.heap.size w3) (.cells #[.slice ps S.length cs] 41)
  have CB : (w3.alloc (.cells #[.slice ps S.length cs] 41)).cell? ⟨w3.heap.size, 0, none⟩ = some (.slice ps S.length cs) := by simp
  have HRow := Lib.hid (HRow.out.mono ub)
  have zL : (w3.alloc (.cells #[.slice ps S.length cs] 41)).heap.size = w3.heap.size + 1 := by simp
  have M5 := Lib.hid ((M5.up hb3).up ub)
  have M6 := Lib.hid ((M6.up hb3).up ub)
  have X5 := Lib.hid (Boxed.alloc (show Boxed w3 b5 70 (.map (some md)) from (hb3.block _ X5.lt).trans X5) (.cells #[.slice ps S.length cs] 41))
  have X6 := Lib.hid (Boxed.alloc (show Boxed w3 b6 71 (.map (some mf)) from (hb3.block _ X6.lt).trans X6) (.cells #[.slice ps S.length cs] 41))
  have BL := Lib.hid (up_call (up_call B5.out hb3) ub)
  have BVL := Lib.hid (up_call (up_call BV5 hb3) ub)
  have hw2 := hb2.size
  rw [World.size_alloc] at hw2
  clear BV5
  have s3 := hb3.size
  generalize hL : w3.alloc (.cells #[.slice ps S.length cs] 41) = L at ub CB HRow zL M5 M6 X5 X6 BL BVL ⊢
  clear hb3 ub hL
  gi_wp2_with fail
  have lmd : md < L.heap.size := by omega
  have lmf : mf < L.heap.size := by omega
  refine Rng.law3 (gf := 78) (lb := #[.pointer (some ⟨w3.heap.size, 0, none⟩)]) rfl (enters_of Try.func78 (by kernel_rfl) rfl) (encs := fun x : Nat × Sq.O => #[.int .i64 x.1, x.2.v]) (fun _ => rfl)
    (backward_iter 9 ps S cs (by omega) w3.heap.size (VI L md mf S) (fun k W ⟨g, h⟩ => h.cell CB (by omega) (by omega)) (fun k W ⟨g, h⟩ => h.row HRow.out M5.out.nocell M6.out.nocell))
    (VI.own lmd lmf) ⟨fun _ => .slice none 0 0, fun _ _ _ _ => rfl, Below.refl _ _, M5.out.as fun _ _ => rfl, M6.out, fun _ _ => ownE_nil _ _ _, fun _ _ _ _ _ _ h => by simp [Value.ownBlock] at h⟩ ?round ?done
  case round =>
    rintro lo k ⟨m, o⟩ W K ⟨hm, ho, hkm⟩ ⟨g, hg⟩ hK
    dsimp only at hm ho hkm
    have HO := Lib.hid ho
    clear ho
    unfold Sq.O.v
    gi_wp2
    refine hK _ _ (KeepsOthers.alloc _ _) ?_
    clear hK
    intro W2 row hg2 hr2
    have V2 := Lib.hid ((hg.kept lmd lmf (World.grownBy_alloc W (.cells #[.bool o.del, .int .i64 o.rep, .int .i64 o.cnt, .int .i64 o.arep, .int .i64 o.acnt, .string o.line] 53 (0, 0)) none) (fun r e => by cases e)).kept lmd lmf hg2 hr2)
    have OX : Hid (OpBx W2 W.heap.size o) := Lib.hid (OpBx.own () _ _ row ⟨World.alloc_heap_new W _⟩ hg2 hr2)
    have HB : Hid (∀ x q, elOk x → (g x).ownBlock = some q → q < W.heap.size) := Lib.hid fun x q hx hq => ((hg.own x hx).lt q hq).2
    have hWL := hg.st.size
    have c0 := OX.out.b.c0
    clear hg2 hr2 hg K
    have hmem : o ∈ l := by rw [HO.out]; exact HPm.out.subset (List.getElem_mem hm)
    cases hd0 : o.del
    · rw [hd0] at c0
      gi_wp2_with fail
      have hpr : elOk o.pr := by have := hnd o hmem; unfold Sq.O.nd at this; rwa [hd0] at this
      have hov : o.v = .agg #[.bool false, .int .i64 o.rep, .int .i64 o.cnt, .int .i64 o.arep, .int .i64 o.acnt, .string o.line] := by unfold Sq.O.v; rw [hd0]
      obtain ⟨fl, hfl⟩ : ∃ fl, fl = Sq.fls S k o.pr := ⟨_, rfl⟩
      obtain ⟨v0, hv0⟩ : ∃ v0, v0 = g o.pr := ⟨_, rfl⟩
      have hw2 : W.heap.size < W2.heap.size := OX.out.b.lt
      have hz2 := V2.out.st.size
      have O2 : OwnE opE L.heap.size W2 v0 fl := by rw [hv0, hfl]; exact V2.out.own o.pr hpr
      have hq0 : ∀ q, v0.ownBlock = some q → q < W.heap.size ∧ L.heap.size ≤ q := fun q e => ⟨HB.out o.pr q hpr (hv0 ▸ e), (O2.lt q e).1⟩
      have hfl0 : fl.length ≤ 1000000 := by rw [hfl]; exact Nat.le_trans (Sq.fls_len S k o.pr) (by omega)
      have CK : Hid (∀ w5, W2.grownBy w5 v0.ownBlock → w5.cell? ⟨b6, 0, none⟩ = some (.map (some mf)) ∧ OpBx w5 W.heap.size o ∧ Mp Try.prog 77 elV elOk (.slice none 0 0) w5 mf k g) := Lib.hid (fun w5 h => by
        have c6m := V2.out.cell X6.out.cell (by omega) (by omega)
        refine ⟨?_, ⟨(h.block _ hw2 (fun e => by have := (hq0 _ e.symm).1; omega)).trans OX.out.blk⟩, V2.out.m6.kept h (fun e => by have := (hq0 _ e.symm).2; omega)⟩
        rw [← c6m]
        simp only [World.cell?, h.block b6 (cell_block_lt c6m) (fun e => by have := (hq0 _ e.symm).2; omega)])
      have HV0 := Lib.hid hv0
      have HFL := Lib.hid hfl
      clear hv0 hfl
      refine region_factsI (by kernel_rfl) (by kernel_rfl) (fun y => { tmps := #[.slice p l.length cap, undef, .slice none 0 0, .pointer (some ⟨w.heap.size, 0, none⟩), .pointer (some ⟨w2.heap.size, 0, none⟩), .pointer (some ⟨b5, 0, none⟩), .pointer (some ⟨b6, 0, none⟩), undef, .pointer (some ⟨W.heap.size, 0, none⟩), undef, undef, .slice p l.length cap, .agg #[.int .i64 0, .int .i64 0], .agg #[.int .i64 0, .int .i64 0], .agg #[.int .i64 0, .int .i64 0], .bool false, undef, .map (some md), .map (some mf), .slice p l.length cap, .slice ps S.length cs, .func (.func 78) #[] #[.pointer (some ⟨w3.heap.size, 0, none⟩)], .int .i64 m, .agg #[.bool false, .int .i64 o.rep, .int .i64 o.cnt, .int .i64 o.arep, .int .i64 o.acnt, .string o.line], .pointer (some ⟨W.heap.size, 0, none⟩), .bool false, undef, undef, undef, y 0, y 1, y 2, y 3, y 4, y 5, y 6, y 7, y 8, y 9, undef, undef, undef, undef, undef, undef], defers := [] }) (fun _ => undef) rfl (viC W2 L.heap.size v0 fl) 9 (viS W2 mf L.heap.size v0 fl o) (by simp) ⟨⟨rfl, rfl, rfl, Nat.le_refl _, fun _ _ _ => rfl⟩, fun _ => O2⟩ ?_ (by simp)
      refine steps_consI ?_ (steps_consI ?_ (steps_consI ?_ (steps_consI ?_ (steps_consI ?_ (steps_consI ?_ (steps_consI ?_ (steps_consI ?_ (steps_consI ?_ (steps_consI ?_ (steps_lastI ?_))))))))))
      · refine step_mkI [] rfl rfl (fun _ _ => rfl) ?_
        intro y w5 b hb hC hd K hK
        have c6m := (CK.out w5 hC.1).1
        dsimp only at hK ⊢
        go_simp
        exact hK _ _ hC.or rfl (fun _ _ _ h => h)
      · refine step_mkI [] rfl rfl (fun _ _ => rfl) ?_
        intro y w5 b hb hC hd K hK
        obtain ⟨q0, q1, q2, q3, q4, q5, _⟩ := (CK.out w5 hC.1).2.1.b
        rw [hd0] at q0
        dsimp only at hK ⊢
        go_simp
        exact hK _ _ hC.or rfl (fun _ _ _ h => h)
      · refine step_mkI [1] rfl rfl (fun _ _ => rfl) ?_
        intro y w5 b hb hC hd K hK
        have e1 : y 1 = _ := hd 1 (by simp)
        dsimp only at hK ⊢
        simp only [e1] at hK ⊢
        go_simp
        refine ⟨trivial, ?_⟩
        refine (CallsIn.inRound lo (callsIn_wide.2 (show Calls Try.prog 53 #[.agg #[.bool false, .int .i64 o.rep, .int .i64 o.cnt, .int .i64 o.arep, .int .i64 o.acnt, .string o.line]] _ (BPost (.agg #[.int .i64 o.acnt, .int .i64 o.arep]) _) from hov ▸ predecessorOf_any o _))).mono ?_
        rintro e w2 ⟨rfl, hbb⟩
        exact hK _ _ (hC.up hbb) rfl (fun j u _ h => viS_stab hbb h)
      · refine step_mkI [] rfl rfl (fun _ _ => rfl) ?_
        intro y w5 b hb hC hd K hK
        have c6m := (CK.out w5 hC.1).1
        dsimp only at hK ⊢
        go_simp
        exact hK _ _ hC.or rfl (fun _ _ _ h => h)
      · refine step_mkI [] rfl rfl (fun _ _ => rfl) ?_
        intro y w5 b hb hC hd K hK
        obtain ⟨q0, q1, q2, q3, q4, q5, _⟩ := (CK.out w5 hC.1).2.1.b
        rw [hd0] at q0
        dsimp only at hK ⊢
        go_simp
        exact hK _ _ hC.or rfl (fun _ _ _ h => h)
      · refine step_mkI [4, 2] rfl rfl (fun _ _ => rfl) ?_
        intro y w5 b hb hC hd K hK
        have e4 : y 4 = _ := hd 4 (by simp)
        dsimp only at hK ⊢
        simp only [e4] at hK ⊢
        go_simp
        refine ⟨trivial, ?_⟩
        refine (CallsIn.inRound lo (callsIn_wide.2 (show Calls Try.prog 53 #[.agg #[.bool false, .int .i64 o.rep, .int .i64 o.cnt, .int .i64 o.arep, .int .i64 o.acnt, .string o.line]] _ (BPost (.agg #[.int .i64 o.acnt, .int .i64 o.arep]) _) from hov ▸ predecessorOf_any o _))).mono ?_
        rintro e w2 ⟨rfl, hbb⟩
        exact hK _ _ (hC.up hbb) rfl (fun j u _ h => viS_stab hbb h)
      · refine step_mkI [3, 5] rfl rfl (fun _ _ => rfl) ?_
        intro y w5 b hb hC hd K hK
        have e3 : y 3 = _ := hd 3 (by simp)
        have e5 : y 5 = _ := hd 5 (by simp)
        obtain ⟨kl, hkl⟩ := keyEl o.pr hpr
        have hlk := (CK.out w5 hC.1).2.2.lookup lawEl Try.underlying71 (zS _) hpr hkl
        rw [← HV0.out] at hlk
        unfold elV Sq.O.pr at hlk
        dsimp only at hlk
        dsimp only at hK ⊢
        simp only [e3, e5] at hK ⊢
        go_simp
        exact hK _ _ hC.or rfl (fun _ _ _ h => h)
      · refine step_mkI [] rfl rfl (fun _ _ => rfl) ?_
        intro y w5 b hb hC hd K hK
        obtain ⟨q0, q1, q2, q3, q4, q5, _⟩ := (CK.out w5 hC.1).2.1.b
        rw [hd0] at q0
        dsimp only at hK ⊢
        go_simp
        exact hK _ _ hC.or rfl (fun _ _ _ h => h)
      · refine step_mkI [7] rfl rfl (fun _ _ => rfl) ?_
        intro y w5 b hb hC hd K hK
        have e7 : y 7 = _ := hd 7 (by simp)
        dsimp only at hK ⊢
        simp only [e7] at hK ⊢
        go_simp
        exact hK _ _ (hC.up (up_alloc (Below.refl _ _) _)) ⟨_, hC.1.size, rfl, World.alloc_heap_new _ _⟩ (fun j u _ h => viS_stab (up_alloc (Below.refl _ _) _) h)
      · refine step_mkI [6, 8, 5] rfl rfl (fun _ _ => rfl) ?_
        intro y w5 b hb hC hd K hK
        have e6 : y 6 = v0 := hd 6 (by simp)
        obtain ⟨bb, hbb, e8, hblk⟩ := hd 8 (by simp)
        have hbf := hb rfl
        subst hbf
        refine step_appI (.tmp 35) (.tmp 37) rfl L.heap.size v0 fl o ⟨bb, 0, none⟩ 1 e6 (hC.2 rfl) e8 (blk_at hd0 hblk) hfl0 (Nat.le_trans hz2 hC.1.size) ?_
        intro v6 w6 own6 gr6 loc6
        refine hK v6 w6 ⟨hC.1.trans gr6, fun h => by simp at h⟩ ⟨own6, loc6.imp id (fun e => ⟨_, e, hC.1.size⟩)⟩ (fun j u hj h => viS_app gr6 (fun q e => by have := (hq0 q e).1; omega) hj h)
      · refine tail_mkI rfl ?_
        intro y w5 hC hd K hK
        have e0 : y 0 = _ := hd 0 (by omega)
        have e2 : y 2 = _ := hd 2 (by omega)
        obtain ⟨own9, loc9⟩ := hd 9 (by omega)
        obtain ⟨kl, hkl⟩ := keyEl o.pr hpr
        obtain ⟨w7, hrun, hm7, hg7⟩ := (CK.out w5 hC.1).2.2.update lawEl Try.underlying71 (by unfold maxLen; omega) elV_inj hpr hkl (y 9)
        unfold elV Sq.O.pr at hrun
        dsimp only at hrun
        have hoo : (o.acnt, o.arep) = o.pr := rfl
        dsimp only at hK ⊢
        simp only [e0, e2] at hK ⊢
        go_simp
        refine hK undef _ ?_
        clear hK
        have hz5 := hC.1.size
        have hz7 := hg7.size
        have kp : KeepsFrom L.heap.size W2 w7 := ((KeepsOthers.of_grownBy hC.1 (fun j ob ej hj => by rcases O2.2 with ⟨e, _⟩ | ⟨q, _, _, e, _, hq, _⟩ <;> rw [e] at ej <;> simp [Value.ownBlock] at ej; subst ej; rw [hq] at hj; cases hj; rfl)).from L.heap.size).trans (KeepsFrom.of_grownBy hg7 (fun j e => by cases e; exact lmf))
        refine ⟨kp, fun u => if u = o.pr then y 9 else g u, ?_, ?_, ?_, ?_, ?_, ?_⟩
        · intro j hj h1 h2
          rw [hg7.block j (by omega) (by simp; omega), hC.1.block j (by omega) (fun e => by have := (hq0 _ e.symm).2; omega)]
          exact V2.out.same j hj h1 h2
        · exact V2.out.st.trans ⟨hg7.os.trans hC.1.os, hg7.tape.trans hC.1.tape, hg7.output.trans hC.1.output, Nat.le_trans hz5 hz7, fun _ h => absurd h (Nat.not_lt_zero _)⟩
        · have := ((V2.out.m5.kept hC.1 (fun e => by have := (hq0 _ e.symm).2; omega)).kept hg7 (by simp; omega)).mono (Nat.le_succ k)
          rw [Sq.dls_ins hm hkm (HO.out ▸ hd0)]
          exact this
        · exact hm7
        · intro u hu
          by_cases e : u = o.pr
          · subst e
            rw [if_pos rfl, HO.out, Sq.fls_same hm hkm (HO.out ▸ hd0), ← HO.out, ← HFL.out]
            exact World.ownsRow.kept own9 hg7 (own_off own9 lmf)
          · rw [if_neg e, Sq.fls_far hm hkm (by rw [← HO.out]; exact fun h => e h.symm)]
            have o1 : OwnE opE L.heap.size w5 (g u) (Sq.fls S k u) := World.ownsRow.kept (V2.out.own u hu) hC.1 (by
              cases hq : (g u).ownBlock with
              | none => exact .inl rfl
              | some q => exact .inr (fun h => V2.out.dis u o.pr q hu hpr e hq (by rw [← HV0.out]; exact h.symm)))
            exact World.ownsRow.kept o1 hg7 (own_off o1 lmf)
        · intro u z q hu hz hne h1 h2
          have new : ∀ z, elOk z → z ≠ o.pr → (y 9).ownBlock = some q → (g z).ownBlock = some q → False := fun z hz hn e1 e2 => by
            rcases loc9 with e | ⟨q9, e, hq9⟩
            · exact V2.out.dis z o.pr q hz hpr hn e2 (by rw [← HV0.out, ← e]; exact e1)
            · rw [e] at e1; cases e1; have := HB.out z _ hz e2; omega
          by_cases e1 : u = o.pr
          · rw [if_pos e1] at h1
            have e2 : z ≠ o.pr := fun h => hne (e1.trans h.symm)
            rw [if_neg e2] at h2
            exact new z hz e2 h1 h2
          · rw [if_neg e1] at h1
            by_cases e2 : z = o.pr
            · rw [if_pos e2] at h2
              exact new u hu e1 h2 h1
            · rw [if_neg e2] at h2
              exact V2.out.dis u z q hu hz hne h1 h2
    · rw [hd0] at c0
      have hov : o.v = .agg #[.bool true, .int .i64 o.rep, .int .i64 o.cnt, .int .i64 o.arep, .int .i64 o.acnt, .string o.line] := by unfold Sq.O.v; rw [hd0]
      gi_wp2_with fail
      have hel : elOk o.el := by have := hnd o hmem; unfold Sq.O.nd at this; rwa [hd0] at this
      refine region_factsI (by kernel_rfl) (by kernel_rfl) (fun y => { tmps := #[.slice p l.length cap, undef, .slice none 0 0, .pointer (some ⟨w.heap.size, 0, none⟩), .pointer (some ⟨w2.heap.size, 0, none⟩), .pointer (some ⟨b5, 0, none⟩), .pointer (some ⟨b6, 0, none⟩), undef, .pointer (some ⟨W.heap.size, 0, none⟩), undef, undef, .slice p l.length cap, .agg #[.int .i64 0, .int .i64 0], .agg #[.int .i64 0, .int .i64 0], .agg #[.int .i64 0, .int .i64 0], .bool false, undef, .map (some md), .map (some mf), .slice p l.length cap, .slice ps S.length cs, .func (.func 78) #[] #[.pointer (some ⟨w3.heap.size, 0, none⟩)], .int .i64 m, .agg #[.bool true, .int .i64 o.rep, .int .i64 o.cnt, .int .i64 o.arep, .int .i64 o.acnt, .string o.line], .pointer (some ⟨W.heap.size, 0, none⟩), .bool true, y 0, y 1, y 2, undef, undef, undef, undef, undef, undef, undef, undef, undef, undef, undef, undef, undef, undef, undef, undef], defers := [] }) (fun _ => undef) rfl (fun _ w' => Below W2.heap.size W2 w') 0 (vdS md o) (by simp) (Below.refl _ _).drew ?_ (by simp)
      refine steps_consI ?_ (steps_consI ?_ (steps_consI ?_ (steps_lastI ?_)))
      · refine step_mkI [] rfl rfl (fun _ _ => rfl) ?_
        intro y w5 b hb hC hd K hK
        have c5m := V2.out.cell X5.out.cell (by omega) (by omega)
        rw [← hC.cell (p := ⟨b5, 0, none⟩) (cell_block_lt c5m)] at c5m
        dsimp only at hK ⊢
        go_simp
        exact hK _ _ hC rfl (fun _ _ _ h => h)
      · refine step_mkI [] rfl rfl (fun _ _ => rfl) ?_
        intro y w5 b hb hC hd K hK
        obtain ⟨q0, q1, q2, q3, q4, q5, _⟩ := (OX.out.up hC).b
        rw [hd0] at q0
        dsimp only at hK ⊢
        go_simp
        exact hK _ _ hC rfl (fun _ _ _ h => h)
      · refine step_mkI [1] rfl rfl (fun _ _ => rfl) ?_
        intro y w5 b hb hC hd K hK
        have e1 : y 1 = _ := hd 1 (by simp)
        dsimp only at hK ⊢
        simp only [e1] at hK ⊢
        go_simp
        refine ⟨trivial, ?_⟩
        refine (CallsIn.inRound lo (callsIn_wide.2 (show Calls Try.prog 52 #[.agg #[.bool true, .int .i64 o.rep, .int .i64 o.cnt, .int .i64 o.arep, .int .i64 o.acnt, .string o.line]] _ (BPost (.agg #[.int .i64 o.cnt, .int .i64 o.rep]) _) from hov ▸ elementOf_any o _))).mono ?_
        rintro e w2 ⟨rfl, hb⟩
        exact hK _ _ (up_call hC hb) rfl (fun j u _ h => vdS_stab hb h)
      · refine tail_mkI rfl ?_
        intro y w5 hC hd K hK
        have e0 : y 0 = _ := hd 0 (by omega)
        have e2 : y 2 = _ := hd 2 (by omega)
        obtain ⟨kl, hkl⟩ := keyEl o.el hel
        obtain ⟨w6, hrun, hm6, hg6⟩ := (V2.out.m5.up hC).update lawEl Try.underlying70 (by unfold maxLen; omega) elV_inj hel hkl (.bool true)
        unfold elV Sq.O.el at hrun
        dsimp only at hrun
        dsimp only at hK ⊢
        simp only [e0, e2] at hK ⊢
        go_simp
        refine hK undef _ ?_
        clear hK
        have hzw := hC.size
        have hz2 := V2.out.st.size
        have hz6 := hg6.size
        have kp := ((keeps_below hC).from L.heap.size).trans (KeepsFrom.of_grownBy hg6 (fun j e => by cases e; exact lmd))
        refine ⟨kp, g, ?_, ?_, ?_, ?_, ?_, V2.out.dis⟩
        · intro j hj h1 h2
          rw [hg6.block j (by omega) (by simp; omega), hC.block j (by omega)]
          exact V2.out.same j hj h1 h2
        · exact V2.out.st.trans ⟨hg6.os.trans hC.os, hg6.tape.trans hC.tape, hg6.output.trans hC.output, Nat.le_trans hC.size hg6.size, fun _ h => absurd h (Nat.not_lt_zero _)⟩
        · refine hm6.as fun u _ => ?_
          rw [Sq.dls_del hm hkm (HO.out ▸ hd0), ← HO.out]
          by_cases e : u = o.el
          · subst e; simp
          · simp [e]
        · exact ((V2.out.m6.up hC).kept hg6 (by simp; omega)).mono (Nat.le_succ _)
        · intro u hu
          rw [Sq.fls_del hm hkm (HO.out ▸ hd0)]
          refine World.ownsRow.kept (ownE_up (V2.out.own u hu) hC) hg6 ?_
          rcases (V2.out.own u hu).2 with ⟨e, _⟩ | ⟨q, _, _, e, hq, _⟩
          · exact .inl (by rw [e]; rfl)
          · refine .inr ?_; rw [e]; simp [Value.ownBlock]; omega
  case done =>
    rintro D k W hD rfl ⟨g, hg⟩ hdef
    have hF : Hid (Fw W b6 b5 mf md S.length S.length g (Sq.De S) (Sq.Fo S)) := Lib.hid ⟨hg.cell X6.out.cell (by omega) (by omega), hg.cell X5.out.cell (by omega) (by omega), hg.m6, hg.m5,
      fun x hx => by obtain ⟨p, cap, h1, h2, -, -, -⟩ := row_of_own (hg.own x hx); exact ⟨p, cap, h1, h2⟩,
      fun x o ho => by
        have hm := HPm.out.subset (Sq.Fo_mem ho).1
        exact ⟨Sq.inR_ok (Sq.oC_in (Sq.all_ok hok o hm)), HS.out o hm⟩,
      fun x => Nat.le_trans (Sq.fls_len S _ x) (by omega)⟩
    have hrk := Lib.hid (Sq.rk_lt (S := S) (fun o ho => Sq.all_ok hok o (HPm.out.subset ho)))
    have BV : Hid (Below (w.heap.size + 1) (w.alloc (.cells #[.int .i64 0, .int .i64 0] 24 (0, 0))) W) := Lib.hid (by
      have b := BVL.out
      rw [World.size_alloc] at b
      have hz := hg.st.size
      exact ⟨hg.st.os.trans b.os, hg.st.tape.trans b.tape, hg.st.output.trans b.output, Nat.le_trans b.size hz, fun j hj => (hg.same j (by omega) (by omega) (by omega)).trans (b.block j hj)⟩)
    have FW := Lib.hid ((Flt.new w 0 0 24).mono BV.out (by omega))
    have BW := Lib.hid (up0.trans (BV.out.mono (by omega)))
    have BX := Boxed.new (W.alloc (.cells #[.slice none 0 0] 42)) 79 .nilFunc
    rw [World.size_alloc] at BX
    have bc := BX.cell
    have bf := BX.frozen
    have BX2 := Boxed.new (W.alloc (.cells #[.slice none 0 0] 42)) 79 (.func (.func 54) #[] (fwL b6 b5 W.heap.size))
    rw [World.size_alloc] at BX2
    have bc2 := BX2.cell
    have FI0 : Hid (FI W b6 b5 [] ((W.alloc (.cells #[.slice none 0 0] 42)).alloc (.cells #[.func (.func 54) #[] (fwL b6 b5 W.heap.size)] 79))) := Lib.hid
      ⟨up_alloc (up_alloc (Below.refl _ _) _) _, ⟨_, (Boxed.new W 42 (.slice none 0 0)).alloc _, ownS_nil _ _⟩, BX2⟩
    unfold fwL at bc2 FI0
    have hst : (store ⟨W.heap.size + 1, 0, none⟩ (.func (.func 54) #[] #[.pointer (some ⟨b6, 0, none⟩), .pointer (some ⟨b5, 0, none⟩), .pointer (some ⟨W.heap.size, 0, none⟩), .pointer (some ⟨W.heap.size + 1, 0, none⟩)])).run Try.prog ((W.alloc (.cells #[.slice none 0 0] 42)).alloc (.cells #[.nilFunc] 79)) = .ok () (((W.alloc (.cells #[.slice none 0 0] 42)).alloc (.cells #[.nilFunc] 79)).setCell ⟨W.heap.size + 1, 0, none⟩ (.func (.func 54) #[] #[.pointer (some ⟨b6, 0, none⟩), .pointer (some ⟨b5, 0, none⟩), .pointer (some ⟨W.heap.size, 0, none⟩), .pointer (some ⟨W.heap.size + 1, 0, none⟩)])) := by
      rw [run_store _ _ _ _ _ rfl, bc]
      simp [bf]
    have HD := Lib.hid hdef
    have hDW : D < W.heap.size := (Array.getElem?_eq_some_iff.1 hdef).1
    clear hg hdef BX BX2
    gi_wp2_with fail
    refine ⟨trivial, ?_⟩
    refine (callsIn_wide.2 (follow_any hF.out (Sq.rk S) hrk.out (Sq.rk S (0, 0)) (0, 0) ⟨by decide, by decide⟩ (Nat.le_refl _) [] _ FI0.out (by rw [List.length_nil, Nat.zero_add]; exact HBD.out S HPm.out HSo.out))).mono ?_
    rintro r w8 ⟨rfl, J⟩
    rw [List.nil_append] at J
    obtain ⟨vv, hbx, how⟩ := J.box
    have J8 := Lib.hid J
    have HW8 := Lib.hid how
    have hc8 := hbx.cell
    have F8 := Lib.hid (FW.out.mono J.bel (by have := BV.out.size; simp at this; omega))
    obtain ⟨k0, k1, f0, f1, _⟩ := F8.out
    clear J hbx how
    gi_wp2_with fail
    have FE := F8.out.set2 0 0
    obtain ⟨Wf, hWf⟩ : ∃ Wf, (w8.setCell ⟨w.heap.size, 0, none⟩ (.int .i64 0)).setCell ⟨w.heap.size, 1, none⟩ (.int .i64 0) = Wf := ⟨_, rfl⟩
    have hKf : Wf.heap[D]? = some (.deferred (some [])) := by rw [← hWf]; exact ((KeepsOthers.setCell _ _ _).trans (KeepsOthers.setCell _ _ _)).same D _ ((J8.out.bel.block D hDW).trans HD.out) rfl
    have huf : Below w.heap.size w Wf := by rw [← hWf]; exact ((up_call BW.out J8.out.bel).setCell (Nat.le_refl _) _).setCell (Nat.le_refl _) _
    have hvf : OwnS W.heap.size Wf vv (Sq.vw S) := by
      have hlt : w.heap.size < W.heap.size := by have := BV.out.size; simp at this; omega
      rw [← hWf]
      exact ownsRow_setCell_below (ownsRow_setCell_below HW8.out (a := ⟨w.heap.size, 0, none⟩) (by dsimp only; omega) _) (a := ⟨w.heap.size, 1, none⟩) (by dsimp only; omega) _
    rw [hWf] at FE ⊢
    obtain ⟨d0, d1⟩ := fin_cells FE hKf
    refine ⟨by simp, .inl ⟨_, _, rfl, run_takeDeferred hKf, ?_⟩⟩
    refine ⟨.tuple #[vv, .agg #[.int .i64 0, .int .i64 0]], (by simp [results, Try.results23, go_sem, d0, d1]), vv, S, rfl, HPm.out, HSo.out, ?_, ?_⟩
    · exact Joins.ownsRow_le (ownsRow_putObj hvf _ hKf rfl) (by have := BW.out.size; omega)
    · exact huf.trans (belowK_b (w := w) (Nat.le_refl _) Wf D _ _ (by have := BL.out.size; omega) hKf rfl rfl)
set_option maxRecDepth 100000 in
set_option maxHeartbeats 8000000 in
theorem visible_bad (p : Option Addr) (l : List Sq.O) (cap : Nat) (w : World) (hp : Row opE w p l) (hl : l.length ≤ 2513169434845) (hs : ∀ o ∈ l, o.line.size ≤ 140737488351232) (hbad : Sq.vC l ≠ 0) :
    Calls Try.prog 23 #[.slice p l.length cap] w (BPost (.tuple #[.slice none 0 0, .agg #[.int .i64 (Sq.vC l), .int .i64 (Sq.vI l)]]) w) := by
  have up0 : Below w.heap.size w (w.alloc (.cells #[.int .i64 0, .int .i64 0] 24 (0, 0))) := up_alloc (Below.refl _ _) _
  have HP := Lib.hid hp
  have HS := Lib.hid hs
  have F0 := Lib.hid (Flt.new w 0 0 24)
  clear hp hs
  generalize hc : Sq.vC l = c at hbad ⊢
  generalize hi : Sq.vI l = i
  have HC := Lib.hid hc
  have HI := Lib.hid hi
  clear hc hi
  have g0 : ¬ c = 0 := hbad
  go_enter Try.func23, Try.ntmps23
  go_wp2_with (go_at_call 27; refine (sqValidate_any p l cap _ (HP.out.mono up0) hl HS.out).mono ?_; rintro e w2 ⟨rfl, hb2⟩; rw [HC.out, HI.out])
  rename_i K1 hK1 K2 hK2
  have F2 := (F0.out.up hb2).up (up_alloc (Below.refl _ _) (.cells #[.int .i64 c, .int .i64 i] 24 (0, 0)))
  have G2 := Flt.new w2 c i 24
  have B2 := up_alloc (up_call up0 hb2) (.cells #[.int .i64 c, .int .i64 i] 24 (0, 0))
  generalize w2.alloc (.cells #[.int .i64 c, .int .i64 i] 24 (0, 0)) = W4 at F2 G2 B2 ⊢
  have F4 := F2.set2 c i
  obtain ⟨k0, k1, f0, f1, _⟩ := F2
  obtain ⟨m0, m1, -, -, -⟩ := G2
  have d0 := F4.c0
  have d1 := F4.c1
  go_region
  refine hK2 _ _ ?_
  go_wp2_with fail
  refine bodyPost_ret (v := .tuple #[.slice none 0 0, .agg #[.int .i64 c, .int .i64 i]]) (by simp [results, Try.results23, go_sem, d0, d1]) rfl ⟨rfl, ?_⟩
  exact ((B2.setCell (p := ⟨w.heap.size, 0, none⟩) (by simp) _).setCell (p := ⟨w.heap.size, 1, none⟩) (by simp) _).drew
end Go.Proofs.Ytidncnhhjfdifaa
