
/-
  Package sequence: Merge, walked.
-/
import Derived.Test.YtidncnhhjfdifaaSqCat
import Derived.Test.YtidncnhhjfdifaaMq
import Derived.Test.YtidncnhhjfdifaaSqJ
import Derived.Test.YtidncnhhjfdifaaSqF
import Derived.Test.YtidncnhhjfdifaaReg
import Derived.Test.YtidncnhhjfdifaaSqNe
namespace Go.Proofs.Ytidncnhhjfdifaa
open Go.RowKit Go.Maps
set_option maxRecDepth 4000

namespace Sq
theorem mCI_bad1 {a b : List O} (h : ¬ vC a = 0) : mC a b = vC a ∧ mI a b = vI a ∧ mL a b = [] := by
  have e : mCI a b = (vC a, vI a) := by unfold mCI; rw [if_pos h]
  have e1 : mC a b = vC a := by unfold mC; rw [e]
  exact ⟨e1, by unfold mI; rw [e], by unfold mL; rw [e1, if_neg h]⟩
theorem mCI_bad2 {a b : List O} (h : vC a = 0) (h2 : ¬ vC b = 0) : mC a b = vC b ∧ mI a b = -2 ∧ mL a b = [] := by
  have e : mCI a b = (vC b, -2) := by unfold mCI; rw [if_neg (by simpa using h), if_pos h2]
  have e1 : mC a b = vC b := by unfold mC; rw [e]
  exact ⟨e1, by unfold mI; rw [e], by unfold mL; rw [e1, if_neg h2]⟩
theorem mCI_conf {a b : List O} {k : Nat} (h : vC a = 0) (h2 : vC b = 0) (h3 : b.findIdx? (clash a) = some k) : mC a b = 19 ∧ mI a b = k ∧ mL a b = [] := by
  have e : mCI a b = (19, (k : Int)) := by unfold mCI; rw [if_neg (by simpa using h), if_neg (by simpa using h2), h3]
  have e1 : mC a b = 19 := by unfold mC; rw [e]
  exact ⟨e1, by unfold mI; rw [e], by unfold mL; rw [e1, if_neg (by decide)]⟩
theorem mCI_long {a b : List O} (h : vC a = 0) (h2 : vC b = 0) (h3 : b.findIdx? (clash a) = none) (h4 : 60 < a.length + (nw a b).length) : mC a b = 10 ∧ mI a b = -1 ∧ mL a b = [] := by
  have e : mCI a b = (10, -1) := by unfold mCI; rw [if_neg (by simpa using h), if_neg (by simpa using h2), h3]; exact if_pos h4
  have e1 : mC a b = 10 := by unfold mC; rw [e]
  exact ⟨e1, by unfold mI; rw [e], by unfold mL; rw [e1, if_neg (by decide)]⟩
theorem mCI_good {a b : List O} (h : vC a = 0) (h2 : vC b = 0) (h3 : b.findIdx? (clash a) = none) (h4 : ¬ 60 < a.length + (nw a b).length) : mC a b = 0 ∧ mI a b = 0 ∧ mL a b = srt (a ++ nw a b) := by
  have e : mCI a b = (0, 0) := by unfold mCI; rw [if_neg (by simpa using h), if_neg (by simpa using h2), h3]; exact if_neg h4
  have e1 : mC a b = 0 := by unfold mC; rw [e]
  exact ⟨e1, by unfold mI; rw [e], by unfold mL; rw [e1, if_pos rfl]⟩
theorem nw_next {a b : List O} {k : Nat} (hk : k < b.length) : nw a (b.take (k + 1)) = nw a (b.take k) ++ (if b[k].id ∈ a.map O.id then [] else [b[k]]) := by
  unfold nw
  rw [List.take_succ_eq_append_getElem hk, List.filter_append]
  congr 1
  by_cases h : b[k].id ∈ a.map O.id
  · rw [if_pos h, List.filter_cons_of_neg (by simpa using h), List.filter_nil]
  · rw [if_neg h, List.filter_cons_of_pos (by simpa using h), List.filter_nil]
theorem nw_len (a b : List O) : (nw a b).length ≤ b.length := List.length_filter_le _ _
theorem clash_no {a : List O} (ha : Val a) {p o : O} (hp : p ∈ a) (he : p.id = o.id) : clash a o = !decide (p = o) := by
  unfold clash
  by_cases h : p = o
  · rw [decide_eq_true h, List.any_eq_false.2]
    · rfl
    · intro x hx
      simp only [Bool.and_eq_true, decide_eq_true_eq, not_and]
      intro e hne
      exact hne ((inj_of ha.nd hx hp (e.trans he.symm)).trans h)
  · rw [decide_eq_false h, List.any_eq_true.2]
    · rfl
    · exact ⟨p, hp, by simp [he, h]⟩
theorem clash_new {a : List O} {o : O} (h : o.id ∉ a.map O.id) : clash a o = false := by
  unfold clash
  rw [List.any_eq_false]
  intro x hx
  simp only [Bool.and_eq_true, decide_eq_true_eq, not_and]
  intro e
  exact absurd (e ▸ List.mem_map_of_mem hx) h
theorem find_at {a b : List O} {k : Nat} (hk : k < b.length) (hn : ∀ o ∈ b.take k, clash a o = false) (h : clash a b[k] = true) : b.findIdx? (clash a) = some k := by
  rw [List.findIdx?_eq_some_iff_getElem]
  refine ⟨hk, h, fun j hj => ?_⟩
  rw [hn _ (List.mem_take_iff_getElem.2 ⟨j, by omega, rfl⟩)]
  decide
/-- what the map holds at an identity -/
def gk (l : List O) (x : Id) : Option Value := (l.find? fun o => decide (o.id = x)).map O.v
theorem gk_next {l : List O} (hn : (l.map O.id).Nodup) {k : Nat} (hk : k < l.length) (x : Id) : (if x = l[k].id then some l[k].v else gk (l.take k) x) = gk (l.take (k + 1)) x := by
  unfold gk
  rw [List.take_succ_eq_append_getElem hk, List.find?_append]
  by_cases hx : x = l[k].id
  · subst hx
    have : (l.take k).find? (fun o => decide (o.id = l[k].id)) = none := by
      rw [List.find?_eq_none]
      intro o ho
      simp only [decide_eq_true_eq]
      intro e
      obtain ⟨i, hi, rfl⟩ := List.mem_take_iff_getElem.1 ho
      rw [List.nodup_iff_pairwise_ne, List.pairwise_iff_getElem] at hn
      exact hn i k (by simp; omega) (by simpa using hk) (by omega) (by simpa using e)
    rw [if_pos rfl, this]
    simp
  · rw [if_neg hx]
    have : decide (l[k].id = x) = false := decide_eq_false (fun e => hx e.symm)
    rw [List.find?_cons, this]
    simp
theorem gk_none {l : List O} {x : Id} (h : x ∉ l.map O.id) : gk l x = none := by
  unfold gk
  rw [List.find?_eq_none.2, Option.map_none]
  intro o ho
  simp only [decide_eq_true_eq]
  intro e
  exact h (e ▸ List.mem_map_of_mem ho)
theorem gk_some {l : List O} (hn : (l.map O.id).Nodup) {o : O} (ho : o ∈ l) : gk l o.id = some o.v := by
  unfold gk
  cases hf : l.find? (fun p => decide (p.id = o.id)) with
  | none =>
    rw [List.find?_eq_none] at hf
    exact absurd (decide_eq_true rfl) (hf o ho)
  | some p =>
    have h1 := List.find?_some hf
    have h2 := List.mem_of_find?_eq_some hf
    rw [inj_of hn h2 ho (by simpa using h1)]
    rfl
end Sq
/-- what Merge hands back -/
def GM (L : List Sq.O) (c i : Int) (w : World) (e : Ending) (w' : World) : Prop :=
  ∃ q cap, e = .returned (.tuple #[.slice q L.length cap, .agg #[.int .i64 c, .int .i64 i]]) ∧ Row opE w' q L ∧ (q = none → cap = 0) ∧ Below w.heap.size w w'
theorem GM.bad {c i : Int} {w w' : World} (h : Below w.heap.size w w') : GM [] c i w (.returned (.tuple #[.slice none 0 0, .agg #[.int .i64 c, .int .i64 i]])) w' := ⟨none, 0, rfl, Row.nil _ _ _, fun _ => rfl, h⟩
theorem zO (w : World) : (zeroValue 53).run Try.prog w = .ok opE.z w := by kernel_rfl
abbrev MqO (w : World) (b n : Nat) (g : Id → Option Value) : Prop := Mq Try.prog 82 idV idOk w b n g
theorem row_litM (w : World) (o : Sq.O) : Row opE (w.alloc (.cells #[.bool o.del, .int .i64 o.rep, .int .i64 o.cnt, .int .i64 o.arep, .int .i64 o.acnt, .string o.line] 53 (0, 0))) (some ⟨w.heap.size, 0, none⟩) [o] := row_lit w w.heap.size [o] rfl
def mgS (mf : Nat) (o : Sq.O) : Nat → Value → World → Prop
  | 0, v, _ => v = .map (some mf)
  | 1, v, _ => v = .agg #[.bool o.del, .int .i64 o.rep, .int .i64 o.cnt, .int .i64 o.arep, .int .i64 o.acnt, .string o.line]
  | 2, v, _ => v = .agg #[.int .i64 o.cnt, .int .i64 o.rep, .int .i64 o.kd]
  | 3, v, _ => v = .agg #[.bool o.del, .int .i64 o.rep, .int .i64 o.cnt, .int .i64 o.arep, .int .i64 o.acnt, .string o.line]
  | _, _, _ => True
theorem mgS_stab {mf : Nat} {o : Sq.O} {w w' : World} (_ : Below w.heap.size w w') : ∀ {j : Nat} {v : Value}, mgS mf o j v w → mgS mf o j v w'
  | 0, _, h | 1, _, h | 2, _, h | 3, _, h => h
  | _ + 4, _, _ => trivial
set_option maxRecDepth 100000 in
set_option maxHeartbeats 4000000 in
theorem sqMerge_any (p q : Option Addr) (a b : List Sq.O) (ca cb : Nat) (w : World) (hp : Row opE w p a) (hq : Row opE w q b) (hN : p = none → ca = 0) (hla : a.length ≤ 2513169434845) (hlb : b.length ≤ 2513169434845)
    (hsa : ∀ o ∈ a, o.line.size ≤ 140737488351232) (hsb : ∀ o ∈ b, o.line.size ≤ 140737488351232) :
    Calls Try.prog 24 #[.slice p a.length ca, .slice q b.length cb] w (GM (Sq.mL a b) (Sq.mC a b) (Sq.mI a b) w) := by
  have up0 : Below w.heap.size w (w.alloc (.cells #[.int .i64 0, .int .i64 0] 24 (0, 0))) := up_alloc (Below.refl _ _) _
  have F0 := Lib.hid (Flt.new w 0 0 24)
  have HP := Lib.hid (hp.mono up0)
  have HQ := Lib.hid (hq.mono up0)
  have HN := Lib.hid hN
  have VA := Lib.hid (sqValidate_any p a ca _ HP.out hla hsa)
  have VB2 := Lib.hid (fun (W : World) (hW : Below (w.alloc (.cells #[.int .i64 0, .int .i64 0] 24 (0, 0))).heap.size (w.alloc (.cells #[.int .i64 0, .int .i64 0] 24 (0, 0))) W) => sqValidate_any q b cb W (HQ.out.mono hW) hlb hsb)
  clear hp hq hla hlb hsa hsb hN
  by_cases h1 : Sq.vC a = 0
  case neg =>
    obtain ⟨e1, e2, e3⟩ := Sq.mCI_bad1 (b := b) h1
    rw [e1, e2, e3]
    clear e1 e2 e3 VB2
    generalize Sq.vC a = c at h1 VA ⊢
    generalize Sq.vI a = i at VA ⊢
    have g0 : ¬ c = 0 := h1
    clear h1
    go_enter Try.func24, Try.ntmps24
    go_wp2_with (go_at_call 27; refine VA.out.mono ?_; rintro e w2 ⟨rfl, hb2⟩)
    rename_i K1 hK1 K2 hK2
    have F2 := (F0.out.up hb2).up (up_alloc (Below.refl _ _) (.cells #[.int .i64 c, .int .i64 i] 24 (0, 0)))
    have G2 := Flt.new w2 c i 24
    have B2 := up_alloc (up_call up0 hb2) (.cells #[.int .i64 c, .int .i64 i] 24 (0, 0))
    generalize w2.alloc (.cells #[.int .i64 c, .int .i64 i] 24 (0, 0)) = W4 at F2 G2 B2 ⊢
    have F4 := F2.set2 c i
    obtain ⟨k0, k1, f0, f1, _⟩ := F2
    obtain ⟨m0, m1, -, -, -⟩ := G2
    have d0 := F4.c0
    have d1 := F4.c1
    go_region
    refine hK2 _ _ ?_
    go_wp2_with fail
    refine bodyPost_ret (v := .tuple #[.slice none 0 0, .agg #[.int .i64 c, .int .i64 i]]) (by simp [results, Try.results24, go_sem, d0, d1]) rfl (GM.bad ?_)
    exact ((B2.setCell (p := ⟨w.heap.size, 0, none⟩) (by simp) _).setCell (p := ⟨w.heap.size, 1, none⟩) (by simp) _).drew
  case pos =>
  have hvi := (Sq.val_to (Sq.val_of h1)).2
  rw [h1, hvi] at VA
  by_cases h2 : Sq.vC b = 0
  case neg =>
    obtain ⟨e1, e2, e3⟩ := Sq.mCI_bad2 h1 h2
    rw [e1, e2, e3]
    clear e1 e2 e3
    generalize Sq.vC b = c at h2 VB2 ⊢
    generalize Sq.vI b = i at VB2 ⊢
    have g0 : ¬ c = 0 := h2
    clear h2 h1 hvi
    go_enter Try.func24, Try.ntmps24
    go_wp2_with fail
    refine VA.out.mono ?_
    rintro e w2 ⟨rfl, hb2⟩
    go_wp2_with fail
    have U2 := Lib.hid (up_alloc hb2 (.cells #[.int .i64 0, .int .i64 0] 24 (0, 0)))
    have VX := Lib.hid (VB2.out _ U2.out)
    clear hb2
    generalize w2.alloc (.cells #[.int .i64 0, .int .i64 0] 24 (0, 0)) = W2 at U2 VX ⊢
    refine VX.out.mono ?_
    rintro e w3 ⟨rfl, hb3⟩
    have F3 := Lib.hid (((F0.out.up U2.out).up hb3).up (up_alloc (Below.refl _ _) (.cells #[.int .i64 c, .int .i64 i] 24 (0, 0))))
    have G3 := Lib.hid (Flt.new w3 c i 24)
    have B3 := Lib.hid (up_alloc (up_call (up_call up0 U2.out) hb3) (.cells #[.int .i64 c, .int .i64 i] 24 (0, 0)))
    clear hb3
    go_wp2_with fail
    rename_i K1 hK1 K2 hK2
    generalize w3.alloc (.cells #[.int .i64 c, .int .i64 i] 24 (0, 0)) = W4 at F3 G3 B3 ⊢
    have F4 := F3.out.set2 c (-2)
    obtain ⟨k0, k1, f0, f1, _⟩ := F3.out
    obtain ⟨m0, m1, -, -, -⟩ := G3.out
    have d0 := F4.c0
    have d1 := F4.c1
    go_region
    refine hK2 _ _ ?_
    go_wp2_with fail
    refine bodyPost_ret (v := .tuple #[.slice none 0 0, .agg #[.int .i64 c, .int .i64 (-2)]]) (by simp [results, Try.results24, go_sem, d0, d1]) rfl (GM.bad ?_)
    exact ((B3.out.setCell (p := ⟨w.heap.size, 0, none⟩) (by simp) _).setCell (p := ⟨w.heap.size, 1, none⟩) (by simp) _).drew
  case pos =>
  have hvi2 := (Sq.val_to (Sq.val_of h2)).2
  rw [h2, hvi2] at VB2
  have HA := Lib.hid (Sq.val_of h1)
  have HB := Lib.hid (Sq.val_of h2)
  have HA0 := Lib.hid h1
  have HB0 := Lib.hid h2
  have la : a.length ≤ 60 := HA.out.len
  have lb : b.length ≤ 60 := HB.out.len
  clear h1 h2 hvi hvi2
  have hmm := @run_makeMap Try.prog
  go_enter Try.func24, Try.ntmps24
  go_wp2_with fail
  refine VA.out.mono ?_
  rintro e w2 ⟨rfl, hb2⟩
  go_wp2_with fail
  have U2 := Lib.hid (up_alloc hb2 (.cells #[.int .i64 0, .int .i64 0] 24 (0, 0)))
  have VX := Lib.hid (VB2.out _ U2.out)
  clear hb2
  generalize w2.alloc (.cells #[.int .i64 0, .int .i64 0] 24 (0, 0)) = W2 at U2 VX ⊢
  refine VX.out.mono ?_
  rintro e w3 ⟨rfl, hb3⟩
  have U3 := Lib.hid (up_alloc (up_call U2.out hb3) (.cells #[.int .i64 0, .int .i64 0] 24 (0, 0)))
  have Z3 : Hid ((w3.alloc (.cells #[.int .i64 0, .int .i64 0] 24 (0, 0))).heap.size = w3.heap.size + 1) := Lib.hid (by simp)
  clear hb3 VX U2 VA VB2
  go_wp2_with fail
  generalize w3.alloc (.cells #[.int .i64 0, .int .i64 0] 24 (0, 0)) = W3 at U3 Z3 ⊢
  rw [← Z3.out]
  have M0 : Hid (MqO (W3.alloc (.map #[] 0)) W3.heap.size 0 (Sq.gk (a.take 0))) := Lib.hid (Mq.made W3)
  go_loopw [33] (fun i wr => ∃ k : Nat, k ≤ a.length ∧ i = .int .i64 k ∧ Hid (MqO wr W3.heap.size k (Sq.gk (a.take k))) ∧ Hid (Below W3.heap.size W3 wr)) (fun i _ => a.length - (intOf i).toNat)
  case atStart => exact ⟨0, Nat.zero_le _, rfl, M0, Lib.hid (up_alloc (Below.refl _ _) _)⟩
  case round =>
    obtain ⟨k, hk, rfl, hM, hB⟩ := hrel
    have b0 : (0 : Int) ≤ (k : Int) := by omega
    by_cases hlt : k < a.length
    · have b1 : (k : Int) < (a.length : Int) := by omega
      have g1 : decide ((k : Int) < (a.length : Int)) = true := decide_eq_true b1
      have UW := Lib.hid (U3.out.trans (hB.out.mono U3.out.size))
      obtain ⟨bp, fp, rfl, hbp, hc⟩ := (HP.out.mono UW.out).cell hlt
      obtain ⟨o, ho⟩ : ∃ o, o = a[k] := ⟨_, rfl⟩
      have HO := Lib.hid ho
      rw [← ho] at hc
      clear ho
      have c0 : wr.cell? ⟨bp, fp + k * 6, none⟩ = some (.bool o.del) := hc 0 _ rfl
      have c1 : wr.cell? ⟨bp, fp + k * 6 + 1, none⟩ = some (.int .i64 o.rep) := hc 1 _ rfl
      have c2 : wr.cell? ⟨bp, fp + k * 6 + 2, none⟩ = some (.int .i64 o.cnt) := hc 2 _ rfl
      have c3 : wr.cell? ⟨bp, fp + k * 6 + 3, none⟩ = some (.int .i64 o.arep) := hc 3 _ rfl
      have c4 : wr.cell? ⟨bp, fp + k * 6 + 4, none⟩ = some (.int .i64 o.acnt) := hc 4 _ rfl
      have c5 : wr.cell? ⟨bp, fp + k * 6 + 5, none⟩ = some (.string o.line) := hc 5 _ rfl
      clear hc
      have OB := Lib.hid (OpB.new wr o)
      have UB := Lib.hid (boxO_up wr o)
      unfold boxO at OB UB
      go_wp2_with fail
      generalize hW4 : wr.alloc (.cells #[.bool o.del, .int .i64 o.rep, .int .i64 o.cnt, .int .i64 o.arep, .int .i64 o.acnt, .string o.line] 53 (0, 0)) = W4 at OB UB ⊢
      rename_i K0 hK0 KK hKK
      have OK := Lib.hid (HA.out.ok o (by rw [HO.out]; exact List.getElem_mem hlt))
      refine region_facts (by kernel_rfl) (by kernel_rfl) (fun y => { tmps := #[.slice (some ⟨bp, fp, none⟩) a.length ca, .slice q b.length cb, undef, undef, .slice none 0 0, .pointer (some ⟨w.heap.size, 0, none⟩), .pointer (some ⟨w2.heap.size, 0, none⟩), .pointer (some ⟨w3.heap.size, 0, none⟩), .map (some W3.heap.size), undef, .pointer (some ⟨wr.heap.size, 0, none⟩), undef, undef, undef, undef, undef, .slice (some ⟨bp, fp, none⟩) a.length ca, .agg #[.int .i64 0, .int .i64 0], .agg #[.int .i64 0, .int .i64 0], .agg #[.int .i64 0, .int .i64 0], .bool false, undef, .slice q b.length cb, .agg #[.int .i64 0, .int .i64 0], .agg #[.int .i64 0, .int .i64 0], .agg #[.int .i64 0, .int .i64 0], .bool false, undef, undef, undef, .map (some W3.heap.size), .slice (some ⟨bp, fp, none⟩) a.length ca, .int .i64 a.length, .int .i64 k, .bool true, .pointer (some ⟨bp, fp + k * 6, none⟩), .agg #[.bool o.del, .int .i64 o.rep, .int .i64 o.cnt, .int .i64 o.arep, .int .i64 o.acnt, .string o.line], y 0, y 1, y 2, y 3, u41, undef, undef, undef, undef, undef, undef, undef, undef, undef, undef, undef, undef, undef, undef, undef, undef, undef, undef, undef, undef, undef, undef, undef, undef, undef, undef, undef, undef, undef, undef, undef, undef, undef, undef, undef, undef, undef, undef, undef], defers := [] }) (fun j => [u37, u38, u39, u40].getD j undef) rfl (fun w' => Below W4.heap.size W4 w') (mgS W3.heap.size o) (Below.refl _ _).drew ?_ (by simp)
      refine steps_cons ?_ (steps_cons ?_ (steps_cons ?_ (steps_cons ?_ (steps_last ?_))))
      · refine step_mk [] rfl rfl (fun _ _ => rfl) ?_
        intro y w5 hC hd K hK
        dsimp only at hK ⊢
        go_simp
        exact hK _ _ hC rfl (fun _ _ _ h => h)
      · refine step_mk [] rfl rfl (fun _ _ => rfl) ?_
        intro y w5 hC hd K hK
        obtain ⟨q0, q1, q2, q3, q4, q5, _⟩ := OB.out.up hC
        dsimp only at hK ⊢
        go_simp
        exact hK _ _ hC rfl (fun _ _ _ h => h)
      · refine step_mk [1] rfl rfl (fun _ _ => rfl) ?_
        intro y w5 hC hd K hK
        have e1 : y 1 = _ := hd 1 (by simp)
        dsimp only at hK ⊢
        simp only [e1] at hK ⊢
        go_simp
        refine (show Calls Try.prog 55 _ _ (BPost (.agg #[.int .i64 o.cnt, .int .i64 o.rep, .int .i64 o.kd]) _) from identityOf_any o _).mono ?_
        rintro e w2 ⟨rfl, hb⟩
        exact hK _ _ (up_call hC hb) rfl (fun j u _ h => mgS_stab hb h)
      · refine step_mk [] rfl rfl (fun _ _ => rfl) ?_
        intro y w5 hC hd K hK
        obtain ⟨q0, q1, q2, q3, q4, q5, _⟩ := OB.out.up hC
        dsimp only at hK ⊢
        go_simp
        exact hK _ _ hC rfl (fun _ _ _ h => h)
      · refine tail_mk rfl ?_
        intro y w5 hC hd K hK
        have e0 : y 0 = _ := hd 0 (by omega)
        have e2 : y 2 = _ := hd 2 (by omega)
        have e3 : y 3 = _ := hd 3 (by omega)
        obtain ⟨kl, hkl⟩ := keyId o.id (Sq.id_ok OK.out)
        obtain ⟨w6, hup, hM6, hg6⟩ := ((hM.out.up UB.out).up hC).update lawId Try.underlying80 (by unfold maxLen; omega) idV_inj (Sq.id_ok OK.out) hkl o.v
        unfold idV Sq.O.id Sq.O.el Sq.O.v at hup
        dsimp only at hup
        dsimp only at hK ⊢
        simp only [e0, e2, e3] at hK ⊢
        go_simp
        refine hK undef _ ?_
        clear hK
        refine hKK _ _ ?_
        clear hKK
        have M6 := Lib.hid hM6
        have BX := Lib.hid (((hB.out.trans (UB.out.mono hB.out.size)).trans (hC.mono (hB.out.trans (UB.out.mono hB.out.size)).size)).grown hg6 ((hB.out.trans (UB.out.mono hB.out.size)).trans (hC.mono (hB.out.trans (UB.out.mono hB.out.size)).size)).size (fun b hb => by cases hb; exact Nat.le_refl _))
        have HLT := Lib.hid hlt
        clear hM6 hg6 hup hC
        go_wp2_with fail
        go_roundw
        case rel => exact ⟨k + 1, HLT.out, by go_num, Lib.hid (M6.out.as fun x _ => by rw [HO.out]; exact Sq.gk_next HA.out.nd HLT.out x), BX⟩
        case measure => simp [intOf]; omega
    · have hkl : k = a.length := by omega
      subst hkl
      have g1 : decide ((a.length : Int) < (a.length : Int)) = false := decide_eq_false (by omega)
      rename_i hKK
      have HK := Lib.hid hKK
      clear hKK
      go_wp2_with fail
      refine HK.out _ _ ?_
      clear HK
      rw [List.take_length] at hM
      have UV := Lib.hid (U3.out.trans (hB.out.mono U3.out.size))
      have HS := Lib.hid hM.out.lt
      clear M0 U3 hB b0 hk g1
      obtain ⟨V, hV⟩ : ∃ V, V = wr := ⟨_, rfl⟩
      rw [← hV] at hM UV HS ⊢
      clear hV
      go_wp2_with fail
      go_loopw [11, 44] (fun v iv wr => ∃ k : Nat, k ≤ b.length ∧ iv = .int .i64 k ∧ Hid (∀ o ∈ b.take k, Sq.clash a o = false) ∧ Hid (OwnE opE V.heap.size wr v (Sq.nw a (b.take k))) ∧ Hid (Below V.heap.size V wr)) (fun _ iv _ => b.length - (intOf iv).toNat)
      case atStart => exact ⟨0, Nat.zero_le _, rfl, Lib.hid (fun o ho => by cases ho), Lib.hid (ownE_nil _ _ _), Lib.hid (Below.refl _ _)⟩
      case round =>
        obtain ⟨k, hk, rfl, hN, hO, hB⟩ := hrel
        have b0 : (0 : Int) ≤ (k : Int) := by omega
        have UW := Lib.hid (UV.out.trans (hB.out.mono UV.out.size))
        by_cases hlt : k < b.length
        · have b1 : (k : Int) < (b.length : Int) := by omega
          have g1 : decide ((k : Int) < (b.length : Int)) = true := decide_eq_true b1
          obtain ⟨bp, fp, rfl, hbp, hc⟩ := (HQ.out.mono UW.out).cell hlt
          have NX := Lib.hid (Sq.nw_next (a := a) hlt)
          have CK := Lib.hid (fun h : Sq.clash a (b[k]'hlt) = false => (show ∀ o ∈ b.take (k + 1), Sq.clash a o = false from fun x hx => by
            rw [List.take_succ_eq_append_getElem hlt] at hx
            rcases List.mem_append.1 hx with hx | hx
            · exact hN.out x hx
            · rw [List.mem_singleton.1 hx]; exact h))
          have FA := Lib.hid (fun h : Sq.clash a (b[k]'hlt) = true => Sq.find_at hlt hN.out h)
          have OK := Lib.hid (HB.out.ok (b[k]'hlt) (List.getElem_mem hlt))
          have HLT := Lib.hid hlt
          have SM : Hid ((Sq.nw a (b.take k)).length ≤ 60) := Lib.hid (Nat.le_trans (Sq.nw_len a (b.take k)) (by rw [List.length_take]; omega))
          obtain ⟨o, ho⟩ : ∃ o, o = b[k]'hlt := ⟨_, rfl⟩
          rw [← ho] at hc NX CK FA OK
          clear ho
          have c0 : wr.cell? ⟨bp, fp + k * 6, none⟩ = some (.bool o.del) := hc 0 _ rfl
          have c1 : wr.cell? ⟨bp, fp + k * 6 + 1, none⟩ = some (.int .i64 o.rep) := hc 1 _ rfl
          have c2 : wr.cell? ⟨bp, fp + k * 6 + 2, none⟩ = some (.int .i64 o.cnt) := hc 2 _ rfl
          have c3 : wr.cell? ⟨bp, fp + k * 6 + 3, none⟩ = some (.int .i64 o.arep) := hc 3 _ rfl
          have c4 : wr.cell? ⟨bp, fp + k * 6 + 4, none⟩ = some (.int .i64 o.acnt) := hc 4 _ rfl
          have c5 : wr.cell? ⟨bp, fp + k * 6 + 5, none⟩ = some (.string o.line) := hc 5 _ rfl
          clear hc
          have OB := Lib.hid (OpB.new wr o)
          have UB := Lib.hid (boxO_up wr o)
          unfold boxO at OB UB
          have ID := Lib.hid (show Calls Try.prog 55 #[.agg #[.bool o.del, .int .i64 o.rep, .int .i64 o.cnt, .int .i64 o.arep, .int .i64 o.acnt, .string o.line]] (wr.alloc (.cells #[.bool o.del, .int .i64 o.rep, .int .i64 o.cnt, .int .i64 o.arep, .int .i64 o.acnt, .string o.line] 53 (0, 0))) (BPost (.agg #[.int .i64 o.cnt, .int .i64 o.rep, .int .i64 o.kd]) _) from identityOf_any o _)
          go_wp2_with fail
          refine ID.out.mono ?_
          rintro e w4 ⟨rfl, hb4⟩
          have X1 := Lib.hid (up_call hB.out UB.out)
          have X2 := Lib.hid (up_call X1.out hb4)
          obtain ⟨kl, hkl⟩ := keyId o.id (Sq.id_ok OK.out)
          have hlk := (hM.out.up X2.out).look lawId Try.underlying80 (zO _) (Sq.id_ok OK.out) hkl
          have O2 := Lib.hid (ownE_upG (ownE_upG hO.out UB.out) hb4)
          have OB4 := Lib.hid (OB.out.up hb4)
          clear hkl hb4 ID OB c0 c1 c2 c3 c4 c5
          by_cases hin : o.id ∈ a.map Sq.O.id
          · obtain ⟨p, hp, hpi⟩ := List.mem_map.1 hin
            have CN := Lib.hid (Sq.clash_no HA.out hp hpi)
            rw [← hpi, Sq.gk_some HA.out.nd hp, hpi] at hlk
            rw [if_pos hin, List.append_nil] at NX
            clear hin
            unfold idV Sq.O.id Sq.O.el Sq.O.v at hlk
            dsimp only [Option.getD, Option.isSome] at hlk
            have hne := fun W => opNe p o W
            unfold Sq.O.v at hne
            have UP := up_alloc (Below.refl w4.heap.size w4) (.cells #[.bool p.del, .int .i64 p.rep, .int .i64 p.cnt, .int .i64 p.arep, .int .i64 p.acnt, .string p.line] 53 (0, 0))
            obtain ⟨q0, q1, q2, q3, q4, q5, _⟩ := OB4.out.up UP
            have PB := OpB.new w4 p
            unfold boxO at PB
            obtain ⟨p0, p1, p2, p3, p4, p5, _⟩ := PB
            have X3 := Lib.hid (up_alloc X2.out (.cells #[.bool p.del, .int .i64 p.rep, .int .i64 p.cnt, .int .i64 p.arep, .int .i64 p.acnt, .string p.line] 53 (0, 0)))
            have O3 := Lib.hid (ownE_upG O2.out UP)
            by_cases hpo : p = o
            · have g5 : (!decide (p = o)) = false := by rw [decide_eq_true hpo]; rfl
              have CL := Lib.hid (CK.out (by rw [CN.out, g5]))
              clear hpo hp hpi UP
              dsimp only
              go_wp2_with fail
              go_roundw
              case rel => exact ⟨k + 1, HLT.out, by go_num, CL, Lib.hid (by rw [NX.out]; exact O3.out), X3⟩
              case measure => simp [intOf]; omega
            · have g5 : (!decide (p = o)) = true := by rw [decide_eq_false hpo]; rfl
              have EE := Lib.hid (Sq.mCI_conf HA0.out HB0.out (FA.out (by rw [CN.out, g5])))
              have FC := F0.out.up (UV.out.trans (X3.out.mono UV.out.size))
              have F4 := FC.set2 19 k
              obtain ⟨k0, k1, f0, f1, _⟩ := FC
              have d0 := F4.c0
              have d1 := F4.c1
              clear hpo hp hpi UP
              dsimp only
              go_wp2_with fail
              refine bodyPost_ret (v := .tuple #[.slice none 0 0, .agg #[.int .i64 19, .int .i64 k]]) (by simp [results, Try.results24, go_sem, d0, d1]) rfl ?_
              rw [EE.out.1, EE.out.2.1, EE.out.2.2]
              refine GM.bad ?_
              exact ((up_call up0 (UV.out.trans (X3.out.mono UV.out.size))).setCell (p := ⟨w.heap.size, 0, none⟩) (by simp) _).setCell (p := ⟨w.heap.size, 1, none⟩) (by simp) _
          · rw [Sq.gk_none hin] at hlk
            rw [if_neg hin] at NX
            have CL := Lib.hid (CK.out (Sq.clash_new hin))
            clear hin
            unfold idV Sq.O.id Sq.O.el at hlk
            dsimp only [Option.getD, Option.isSome, opE] at hlk
            have UP := up_alloc (Below.refl w4.heap.size w4) (.cells #[.bool false, .int .i64 0, .int .i64 0, .int .i64 0, .int .i64 0, .string ByteArray.empty] 53 (0, 0))
            obtain ⟨q0, q1, q2, q3, q4, q5, _⟩ := OB4.out.up UP
            have X3 := Lib.hid (up_alloc X2.out (.cells #[.bool false, .int .i64 0, .int .i64 0, .int .i64 0, .int .i64 0, .string ByteArray.empty] 53 (0, 0)))
            have O3 := Lib.hid (ownE_upG O2.out UP)
            have R3 := Lib.hid (row_litM (w4.alloc (.cells #[.bool false, .int .i64 0, .int .i64 0, .int .i64 0, .int .i64 0, .string ByteArray.empty] 53 (0, 0))) o)
            rw [World.size_alloc] at R3
            have O4 := Lib.hid (ownE_upG O3.out (up_alloc (Below.refl _ _) (.cells #[.bool o.del, .int .i64 o.rep, .int .i64 o.cnt, .int .i64 o.arep, .int .i64 o.acnt, .string o.line] 53 (0, 0))))
            have B4 := Lib.hid (up_alloc X3.out (.cells #[.bool o.del, .int .i64 o.rep, .int .i64 o.cnt, .int .i64 o.arep, .int .i64 o.acnt, .string o.line] 53 (0, 0)))
            clear UP
            dsimp only
            go_wp2_with (at_builtin; (refine wp_appN opE rfl (.tmp 58) (.tmp 60) rfl V.heap.size _ (Sq.nw a (b.take k)) [o] (some ⟨w4.heap.size + 1, 0, none⟩) 1 rfl O4.out rfl R3.out (fun e => (by cases e)) (by have := SM.out; simp [opE]; omega) (by have := SM.out; unfold maxLen; simp; omega) B4.out.size ?_); intro v' w' own gr)
            have ON : Hid (OwnE opE V.heap.size w' v' (Sq.nw a (b.take (k + 1)))) := Lib.hid (by rw [NX.out]; exact own)
            have BN := Lib.hid (B4.out.grown gr B4.out.size (fun kb hk => (ownE_block O4.out kb hk).1))
            clear own gr
            go_wp2_with fail
            go_roundw
            case rel => exact ⟨k + 1, HLT.out, by go_num, CL, ON, BN⟩
            case measure => simp [intOf]; omega
        · have hkl : k = b.length := by omega
          subst hkl
          have g1 : decide ((b.length : Int) < (b.length : Int)) = false := decide_eq_false (by omega)
          rw [List.take_length] at hN hO
          have FN := Lib.hid (List.findIdx?_eq_none_iff.2 hN.out)
          rename_i hKK
          have HK := Lib.hid hKK
          clear hKK hN
          go_wp2_with fail
          refine HK.out _ _ ?_
          clear HK b0 g1 hk
          obtain ⟨q2, c2, rfl, hr2, hn2, -, -⟩ := row_of_own hO.out
          have ln := Sq.nw_len a b
          have HR2 := Lib.hid hr2
          have HN2 := Lib.hid hn2
          have g2 : IntKind.i64.wrap ((a.length : Int) + ((Sq.nw a b).length : Int)) = (a.length : Int) + ((Sq.nw a b).length : Int) := IntWalk.i64_in _ (by omega)
          clear hr2 hn2 hO hM
          by_cases h4 : 60 < a.length + (Sq.nw a b).length
          · have g4 : decide ((60 : Int) < (a.length : Int) + ((Sq.nw a b).length : Int)) = true := decide_eq_true (by omega)
            have EE := Lib.hid (Sq.mCI_long HA0.out HB0.out FN.out h4)
            have FC := F0.out.up UW.out
            have F4 := FC.set2 10 (-1)
            obtain ⟨k0, k1, f0, f1, _⟩ := FC
            have d0 := F4.c0
            have d1 := F4.c1
            clear h4 ln la lb
            go_wp2_with fail
            refine bodyPost_ret (v := .tuple #[.slice none 0 0, .agg #[.int .i64 10, .int .i64 (-1)]]) (by simp [results, Try.results24, go_sem, d0, d1]) rfl ?_
            rw [EE.out.1, EE.out.2.1, EE.out.2.2]
            refine GM.bad ?_
            exact ((up_call up0 UW.out).setCell (p := ⟨w.heap.size, 0, none⟩) (by simp) _).setCell (p := ⟨w.heap.size, 1, none⟩) (by simp) _
          · have g4 : decide ((60 : Int) < (a.length : Int) + ((Sq.nw a b).length : Int)) = false := decide_eq_false (by omega)
            have EE := Lib.hid (Sq.mCI_good HA0.out HB0.out FN.out h4)
            have UA := up_alloc (Below.refl wr.heap.size wr) (.cells #[.slice p a.length ca, .slice q2 (Sq.nw a b).length c2] 41 (0, 0))
            have x0 : (wr.alloc (.cells #[.slice p a.length ca, .slice q2 (Sq.nw a b).length c2] 41 (0, 0))).cell? ⟨wr.heap.size, 0, none⟩ = some (.slice p a.length ca) := by rw [World.cell?_alloc_mark]; rfl
            have x1 : (wr.alloc (.cells #[.slice p a.length ca, .slice q2 (Sq.nw a b).length c2] 41 (0, 0))).cell? ⟨wr.heap.size, 1, none⟩ = some (.slice q2 (Sq.nw a b).length c2) := by rw [World.cell?_alloc_mark]; rfl
            have CC := Lib.hid (sconcat_any p q2 ca c2 wr.heap.size a (Sq.nw a b) _ x0 x1 ((HP.out.mono UW.out).mono UA) (HR2.out.mono UA) HN.out HN2.out (by omega) (by omega))
            have UA6 := Lib.hid (UW.out.trans (UA.mono UW.out.size))
            have L4 := Lib.hid (show (a ++ Sq.nw a b).length ≤ 1000000 by rw [List.length_append]; omega)
            clear h4 ln la lb x0 x1 UA
            go_wp2_with fail
            refine CC.out.mono ?_
            rintro e w7 ⟨v3, rfl, own7, hb7⟩
            obtain ⟨q3, c3, rfl, hr3, -, -, -⟩ := row_of_own own7
            have U7 := Lib.hid (up_call UA6.out hb7)
            have SV := Lib.hid (ordered_any q3 (a ++ Sq.nw a b) c3 L4.out w7 hr3)
            rw [List.length_append] at SV
            clear own7 hb7 hr3 CC
            dsimp only
            go_wp2_with fail
            refine SV.out.mono ?_
            rintro e w8 ⟨v4, l', rfl, hp8, hs8, own8, hb8⟩
            have U8 := Lib.hid (up_call U7.out hb8)
            have FX := F0.out.up U8.out
            have F4 := FX.set2 0 0
            obtain ⟨k0, k1, f0, f1, _⟩ := FX
            have d0 := F4.c0
            have d1 := F4.c1
            have hg0 : w.heap.size < w7.heap.size := by have := U7.out.size; rw [World.size_alloc] at this; omega
            have own9 := Lib.hid (ownsRow_setCell_below (ownsRow_setCell_below own8 (a := ⟨w.heap.size, 0, none⟩) hg0 (.int .i64 0)) (a := ⟨w.heap.size, 1, none⟩) hg0 (.int .i64 0))
            have L8 := Lib.hid (Sq.sort_one HA.out HB.out hp8 hs8)
            have B8 := Lib.hid ((((up_call up0 U8.out)).setCell (p := ⟨w.heap.size, 0, none⟩) (by simp) (.int .i64 0)).setCell (p := ⟨w.heap.size, 1, none⟩) (by simp) (.int .i64 0))
            obtain ⟨q4, c4, rfl, -, -, -, -⟩ := row_of_own own8
            clear own8 hp8 hs8 hb8 SV hg0
            dsimp only
            go_wp2_with fail
            refine bodyPost_ret (v := .tuple #[.slice q4 l'.length c4, .agg #[.int .i64 0, .int .i64 0]]) (by simp [results, Try.results24, go_sem, d0, d1]) rfl ?_
            rw [EE.out.1, EE.out.2.1, EE.out.2.2, ← L8.out]
            obtain ⟨q9, c9, e9, hr9, hn9, -, -⟩ := row_of_own own9.out
            cases e9
            exact ⟨_, _, rfl, hr9, hn9, B8.out⟩
end Go.Proofs.Ytidncnhhjfdifaa
