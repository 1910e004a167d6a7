
/-
  The reference's Apply, walked.
-/
import Derived.Test.YtcheggdfcdokiaaDoorTpB
import Derived.Test.YtcheggdfcdokiaaDoorTpM
import Derived.Laws.OwnMore
namespace Go.Proofs.YtcheggdfcdokiaaDoor
open Go.RowKit
set_option maxRecDepth 4000

/-- 'append(v, x...)' at a step of a region that draws its order -/
theorem step_appSs {ops : Array Oper} {o : Oper} {a : Act} {w : World} {K : Act → World → Prop} {Q : Exit → Act → World → Prop} {E : Prop}
    (hg : o.guard = none) (s x : Operand) (hop : o.op = .call { callee := .builtin .append, args := #[s, x], argTypes := #[22, 22] })
    (base : Nat) (v : Value) (l m : List ByteArray) (p : Option Addr) (cap : Nat) (hs : a.eval s = v) (hown : OwnS base w v l) (hx : a.eval x = .slice p m.length cap) (hp : Sts w p m) (hcap : p = none → cap = 0)
    (hlen : l.length + m.length ≤ 8796093022208) (hbase : base ≤ w.heap.size)
    (hK : ∀ v' w', OwnS base w' v' (l ++ m) → w.grownBy w' v.ownBlock → K (a.put o.dst v') w') :
    if Region.wanted o (yielded ops a.tmps) = true then Oper.wp Tryd.prog o a w K Q else E := by
  rw [if_pos (by simp [Region.wanted, hg])]
  obtain ⟨i0, hi, hz0, hz1, hz2⟩ := info_parts infoS
  cases p with
  | none =>
    have hm := hp.nil' rfl
    subst hm
    have hc := hcap rfl
    subst hc
    have hrun := run_append_owned_none (P := Tryd.prog) (w := w) base 22 o.type 9 i0 1 Tryd.underlying22 hi v l.length (l.map strv) hown
    have hx' : a.eval x = .slice none 0 0 := hx
    unfold Oper.wp
    simp [execOp, hop, resolve, invoke, builtin, hs, hx', hrun, Result.andThen, Oper.upon]
    exact hK _ _ (by rw [List.append_nil]; exact hown) ⟨rfl, rfl, rfl, Nat.le_refl _, fun _ _ _ => rfl⟩
  | some ad =>
    obtain ⟨v', w', hrun, r1, r2, r3⟩ := run_append_own (P := Tryd.prog) w base 22 o.type 9 i0 (.string ByteArray.empty) 1 16 Tryd.underlying22 hi hz0 hz1 hz2 rfl (by decide) v l.length (l.map strv) hown ad m.length cap (m.map strv) (by simp)
      (fun j u hj => by
        have hjl : j < m.length := by simpa using (List.getElem?_eq_some_iff.1 hj).1
        obtain ⟨b, off, e, hlt, hc⟩ := hp.at' (by intro e; subst e; simp at hjl)
        cases e
        rw [add_at, hc j hjl]
        simp [hjl, strv] at hj
        rw [← hj]
        simp [List.getD_eq_getElem?_getD, hjl]) (fun u hu => by obtain ⟨n, _, rfl⟩ := List.mem_map.1 hu; rfl) (by unfold maxLen; omega) (by omega) hbase
    unfold Oper.wp
    simp [execOp, hop, resolve, invoke, builtin, hs, hx, hrun, Result.andThen, Oper.upon]
    refine hK _ _ ?_ r2
    unfold OwnS
    rw [List.length_append, List.map_append]
    exact r1
/-- the head of an own slice -/
theorem OwnS.take {base : Nat} {w : World} {g : Nat} {n cap : Nat} {l : List ByteArray} (h : OwnS base w (.slice (some ⟨g, 0, none⟩) n cap) l) (k : Nat) (hk : k ≤ l.length) : OwnS base w (.slice (some ⟨g, 0, none⟩) k cap) (l.take k) := by
  obtain ⟨hlen, ⟨e, h0⟩ | ⟨g', cap', cur, e, hb, hg, hn, hm, hsz, htk⟩⟩ := h
  · cases e
  · cases e
    have el : (l.take k).length = k := by rw [List.length_take]; omega
    refine ⟨by rw [List.length_map, Nat.mul_one, el], .inr ⟨g, cap, cur, by rw [el], hb, hg, by omega, hm, hsz, ?_⟩⟩
    rw [el, Nat.mul_one, List.map_take, ← htk, List.take_take]
    congr 1
    omega
theorem ownS_take {base : Nat} {w : World} {p : Option Addr} {n cap : Nat} {l : List ByteArray} (h : OwnS base w (.slice p n cap) l) (k : Nat) (hk : k ≤ l.length) : OwnS base w (.slice p k cap) (l.take k) := by
  have h' := h
  obtain ⟨hlen, ⟨e, h0⟩ | ⟨g', cap', cur, e, r⟩⟩ := h'
  · cases e
    have : l = [] := List.length_eq_zero_iff.1 h0
    subst this
    obtain rfl : k = 0 := by simpa using hk
    exact World.ownsRow_nil _ _ _ _
  · cases e; exact h.take k hk
theorem ownS_up {base : Nat} {w w' : World} {v : Value} {l : List ByteArray} (h : OwnS base w v l) (hb : Below w.heap.size w w') : OwnS base w' v l := by
  obtain ⟨h1, h2 | ⟨g, cap, cur, e, hg, hc, r⟩⟩ := h
  · exact ⟨h1, .inl h2⟩
  · exact ⟨h1, .inr ⟨g, cap, cur, e, hg, by rw [hb.block g (Array.getElem?_eq_some_iff.1 hc).1]; exact hc, r⟩⟩
theorem ownS_block {base : Nat} {w : World} {v : Value} {l : List ByteArray} (h : OwnS base w v l) (b : Nat) (hb : v.ownBlock = some b) : base ≤ b ∧ b < w.heap.size := World.ownsRow.lt h b hb
theorem ownS_keep {base B : Nat} {w w' : World} {v : Value} {l : List ByteArray} (h : OwnS base w v l) (hb : Below B w w') (hv : ∀ b, v.ownBlock = some b → b < B) : OwnS base w' v l := by
  obtain ⟨h1, h2 | ⟨g, cap, cur, e, hg, hc, r⟩⟩ := h
  · exact ⟨h1, .inl h2⟩
  · exact ⟨h1, .inr ⟨g, cap, cur, e, hg, by rw [hb.block g (hv g (by rw [e]; rfl))]; exact hc, r⟩⟩
theorem ownS_le {base base' : Nat} {w : World} {v : Value} {l : List ByteArray} (h : OwnS base w v l) (hb : base' ≤ base) : OwnS base' w v l := by
  obtain ⟨h1, h2 | ⟨g, cap, cur, e, hg, r⟩⟩ := h
  · exact ⟨h1, .inl h2⟩
  · exact ⟨h1, .inr ⟨g, cap, cur, e, by omega, r⟩⟩
theorem ownS_sts {base : Nat} {w : World} {p : Option Addr} {n cap : Nat} {l : List ByteArray} (h : OwnS base w (.slice p n cap) l) (hs : ∀ x ∈ l, x.size ≤ 140737488351232) (hl : l.length ≤ 281474976710656) : Sts w p l := by
  obtain ⟨p', cap', e, h1, -⟩ := sts_of_own h hs hl
  cases e; exact h1
theorem own_blk {base : Nat} {w : World} {v : Value} {l : List ByteArray} (h : OwnS base w v l) : ∀ b, v.ownBlock = some b → base ≤ b ∧ b < w.heap.size := fun b hb => ownS_block h b hb
theorem ownS_shape {base : Nat} {w : World} {v : Value} {l : List ByteArray} (h : OwnS base w v l) : ∃ p cap, v = .slice p l.length cap ∧ (p = none → cap = 0) ∧ l.length ≤ cap := by
  obtain ⟨p, cap, e, -, h1, h2, -⟩ := row_of_own (ownE_ofS h)
  exact ⟨p, cap, e, h1, h2⟩

namespace Tp
theorem ap_split (t : List ByteArray) (hs : List H) (prev : Int) (k c : Nat) (hk : k ≤ c) (hch : Ch prev hs) (hc : (c : Int) ≤ prev + 1) : ap t k hs = mid t k c ++ ap t c hs := by
  cases hs with
  | nil => rw [ap, ap, mid_drop t k c hk]
  | cons h r =>
    have := hch.1.gap
    have := hch.1.lo
    rw [ap, ap, ← mid_join t k c h.at'.toNat hk (by omega), List.append_assoc, List.append_assoc, List.append_assoc]
theorem ch_at {hs : List H} : ∀ {prev : Int}, Ch prev hs → ∀ (k : Nat) (h : k < hs.length), (∃ p, Hok p hs[k]) ∧ Ch (en hs[k]) (hs.drop (k + 1)) := by
  induction hs with
  | nil => intro prev _ k h; simp at h
  | cons x r ih =>
    intro prev hc k h
    cases k with
    | zero => exact ⟨⟨_, hc.1⟩, by simpa using hc.2⟩
    | succ k => simpa using ih hc.2 k (by simpa using h)
/-- the hunks from K on applied; the one ahead of them next -/
theorem ap_back (t : List ByteArray) (hs : List H) (prev : Int) (hch : Ch prev hs) (k : Nat) (h : k < hs.length) (hf : Has t hs[k]) :
    ap t 0 (hs.drop k) = (ap t 0 (hs.drop (k + 1))).take (hs[k]).at'.toNat ++ (hs[k]).new ++ (ap t 0 (hs.drop (k + 1))).drop (en hs[k]).toNat ∧ (en hs[k]).toNat ≤ (ap t 0 (hs.drop (k + 1))).length ∧ (hs[k]).at'.toNat ≤ (en hs[k]).toNat := by
  obtain ⟨⟨p, hok⟩, hr⟩ := ch_at hch k h
  have h1 := hok.lo
  have h2 := hf.hi
  have e : en hs[k] = (hs[k]).at' + (hs[k]).old.length := rfl
  have hle : (hs[k]).at'.toNat ≤ (en hs[k]).toNat := by omega
  have s2 := ap_split t (hs.drop (k + 1)) (en hs[k]) 0 (en hs[k]).toNat (Nat.zero_le _) hr (by omega)
  have l2 : (mid t 0 (en hs[k]).toNat).length = (en hs[k]).toNat := by rw [mid_size t 0 _ (by omega)]; omega
  have s1 := mid_join t 0 (hs[k]).at'.toNat (en hs[k]).toNat (Nat.zero_le _) hle
  have l1 : (mid t 0 (hs[k]).at'.toNat).length = (hs[k]).at'.toNat := by rw [mid_size t 0 _ (by omega)]; omega
  refine ⟨?_, by rw [s2, List.length_append, l2]; omega, hle⟩
  rw [List.drop_eq_getElem_cons h, ap, s2, List.drop_left' l2]
  congr 2
  rw [← s1, List.append_assoc, List.take_left' l1]
theorem vc_small {l : List ByteArray} (h : Lin.vC l = 0) : ∀ x ∈ l, x.size ≤ 140737488351232 := fun x hx => by
  have := (Lin.lc_zero ((Lin.vC_zero h).2 x hx)).1
  omega
theorem ap_small {t : List ByteArray} {hs : List H} (hv : Vp hs) (ht : Lin.vC t = 0) (k j : Nat) : ∀ x ∈ ap t k (hs.drop j), x.size ≤ 140737488351232 := fun x hx => by
  rcases ap_mem t _ k x hx with h | ⟨y, hy, h⟩
  · exact vc_small ht x h
  · exact vc_small (ch_new hv.ch y (List.mem_of_mem_drop hy)).1 x h
theorem ap_bound (t : List ByteArray) (hs : List H) (hn : ∀ h ∈ hs, h.new.length ≤ 120) : ∀ k, (ap t k hs).length ≤ (hs.length + 1) * (t.length + 120) := by
  induction hs with
  | nil => intro k; rw [ap, List.length_drop]; simp; omega
  | cons h r ih =>
    intro k
    have h1 := ih (fun x hx => hn x (List.mem_cons_of_mem _ hx)) (en h).toNat
    have h2 := hn h (List.mem_cons_self ..)
    have h3 : (mid t k h.at'.toNat).length ≤ t.length := by unfold mid; rw [List.length_take, List.length_drop]; omega
    rw [ap, List.length_append, List.length_append, List.length_cons, Nat.add_mul (r.length + 1) 1, Nat.one_mul]
    omega
end Tp
def ApPost (hs : List Tp.H) (t : List ByteArray) (w : World) (e : Ending) (w' : World) : Prop :=
  ∃ v, e = .returned (.tuple #[v, .agg #[.int .i64 (Tp.aC hs t), .int .i64 (Tp.aI hs t)]]) ∧ OwnS w.heap.size w' v (Tp.aT hs t) ∧ Below w.heap.size w w'

theorem cf_next (t : List ByteArray) (hs : List Tp.H) (k : Nat) (h : k < hs.length) : Tp.cf t (hs.drop k) k = if Tp.has t hs[k] = true then Tp.cf t (hs.drop (k + 1)) (k + 1) else some k := by
  rw [List.drop_eq_getElem_cons h]; rfl
/-- Apply's faults -/
theorem aC_p {hs : List Tp.H} {t : List ByteArray} (h : Tp.pC hs ≠ 0) : Tp.aC hs t = Tp.pC hs ∧ Tp.aI hs t = Tp.pI hs ∧ Tp.aT hs t = [] := by
  have e : Tp.aC hs t = Tp.pC hs := if_pos h
  exact ⟨e, if_pos h, if_neg (by rw [e]; exact h)⟩
theorem aC_t {hs : List Tp.H} {t : List ByteArray} (h : Tp.pC hs = 0) (h' : Lin.vC t ≠ 0) : Tp.aC hs t = Lin.vC t ∧ Tp.aI hs t = -2 ∧ Tp.aT hs t = [] := by
  have e : Tp.aC hs t = Lin.vC t := by unfold Tp.aC; rw [if_neg (by simp [h]), if_pos h']
  exact ⟨e, by unfold Tp.aI; rw [if_neg (by simp [h]), if_pos h'], if_neg (by rw [e]; exact h')⟩
theorem aC_c {hs : List Tp.H} {t : List ByteArray} (h : Tp.pC hs = 0) (h' : Lin.vC t = 0) {k : Nat} (hk : Tp.cf t hs 0 = some k) : Tp.aC hs t = 19 ∧ Tp.aI hs t = (k : Int) ∧ Tp.aT hs t = [] := by
  have e : Tp.aC hs t = 19 := by unfold Tp.aC; rw [if_neg (by simp [h]), if_neg (by simp [h']), if_pos (by simp [hk])]
  exact ⟨e, by unfold Tp.aI; rw [if_neg (by simp [h]), if_neg (by simp [h']), if_pos (by simp [hk]), hk]; rfl, if_neg (by rw [e]; decide)⟩
theorem aC_l {hs : List Tp.H} {t : List ByteArray} (h : Tp.pC hs = 0) (h' : Lin.vC t = 0) (hk : Tp.cf t hs 0 = none) (hl : 120 < (Tp.ap t 0 hs).length) : Tp.aC hs t = 10 ∧ Tp.aI hs t = -1 ∧ Tp.aT hs t = [] := by
  have e : Tp.aC hs t = 10 := by unfold Tp.aC; rw [if_neg (by simp [h]), if_neg (by simp [h']), if_neg (by simp [hk]), if_pos hl]
  exact ⟨e, by unfold Tp.aI; rw [if_neg (by simp [h]), if_neg (by simp [h']), if_neg (by simp [hk]), if_pos hl], if_neg (by rw [e]; decide)⟩
theorem aC_o {hs : List Tp.H} {t : List ByteArray} (h : Tp.pC hs = 0) (h' : Lin.vC t = 0) (hk : Tp.cf t hs 0 = none) (hl : ¬ 120 < (Tp.ap t 0 hs).length) : Tp.aC hs t = 0 ∧ Tp.aI hs t = 0 ∧ Tp.aT hs t = Tp.ap t 0 hs := by
  have e : Tp.aC hs t = 0 := by unfold Tp.aC; rw [if_neg (by simp [h]), if_neg (by simp [h']), if_neg (by simp [hk]), if_neg hl]
  exact ⟨e, by unfold Tp.aI; rw [if_neg (by simp [h]), if_neg (by simp [h']), if_neg (by simp [hk]), if_neg hl], if_pos e⟩
end Go.Proofs.YtcheggdfcdokiaaDoor
