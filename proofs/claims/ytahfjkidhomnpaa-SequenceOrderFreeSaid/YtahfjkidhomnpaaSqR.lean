
/-
  The law SequenceOrderFree, walked.
-/
import Derived.Test.YtahfjkidhomnpaaSqQ
import Derived.Test.YtahfjkidhomnpaaOps
namespace Go.Proofs.Ytahfjkidhomnpaa
open Go.RowKit
set_option maxRecDepth 4000

/-- 'append(v, y)', however long -/
theorem wp_appL1 {α : Type} (e : Enc α) {ops : Array Oper} {rest : List Oper} {o : Oper} {a : Act} {Q : Exit → Act → World → Prop} {w : World} (hgd : o.guard = none) (s x : Operand)
    (ho : o.op = .call { callee := .builtin .append, args := #[s, x], argTypes := #[e.sl, e.sl] })
    (base : Nat) (v : Value) (l : List α) (y : α) (ad : Addr) (cap : Nat) (hs : a.eval s = v) (hown : OwnE e base w v l) (hx : a.eval x = .slice (some ad) 1 cap)
    (hp : ∀ k u, (e.enc y)[k]? = some u → w.cell? (ad.add k) = some u)
    (hlen : (l.length + 1) * e.bytes ≤ 140737488355328) (hm : l.length < 100000000000000) (hbase : base ≤ w.heap.size)
    (h : ∀ v' w', OwnE e base w' v' (l ++ [y]) → Below base w w' → wpList Try.prog ops Q rest (a.put o.dst v') w') : wpList Try.prog ops Q (o :: rest) a w := by
  obtain ⟨i0, hi, hz0, hz1, hz2⟩ := info_parts e.inf
  refine wpList_append_own _ hgd s x e.sl ho base e.ty i0 e.z e.size e.bytes e.und hi hz0 hz1 hz2 e.zs e.pos v l.length (l.flatMap e.enc) hs hown ad 1 cap (e.enc y) hx (by rw [e.len, Nat.one_mul]) hp (e.one y) (by unfold maxLen; omega) hlen hbase ?_
  intro v' w' h1 h2 _
  refine h v' w' ?_ ((Below.refl _ _).grown h2 hbase fun k hk => (hown.lt k hk).1)
  unfold OwnE
  rw [List.length_append, List.flatMap_append]
  simpa using h1
set_option maxRecDepth 100000 in
set_option maxHeartbeats 4000000 in
theorem turned_any (p : Option Addr) (l : List Sq.O) (cap : Nat) (w : World) (hp : Row opE w p l) (hl : l.length ≤ 2513169434845) :
    Calls Try.prog 18 #[.slice p l.length cap] w fun e w' => ∃ v, e = .returned v ∧ OwnE opE w.heap.size w' v l.reverse ∧ Below w.heap.size w w' := by
  have HP := Lib.hid hp
  clear hp
  go_enter Try.func18, Try.ntmps18
  go_wp2_with fail
  go_loopw [3, 4] (fun o i wr => ∃ (k : Nat) (g : Value), k ≤ l.length ∧ g = o ∧ i = .int .i64 ((l.length : Int) - 1 - k) ∧ Hid (OwnE opE w.heap.size wr g (l.reverse.take k)) ∧ Hid (Below w.heap.size w wr)) (fun _ i _ => (intOf i + 1).toNat)
  case atStart => exact ⟨0, _, Nat.zero_le _, rfl, by simp, Lib.hid (by rw [List.take_zero]; exact ownE_nil _ _ _), Lib.hid (Below.refl _ _)⟩
  case round =>
    obtain ⟨k, g, hk, rfl, rfl, hO, hB⟩ := hrel
    by_cases hlt : k < l.length
    · obtain ⟨m, hm⟩ : ∃ m, k + m + 1 = l.length := ⟨l.length - 1 - k, by omega⟩
      have hml : m < l.length := by omega
      have hi : (l.length : Int) - 1 - (k : Int) = (m : Int) := by omega
      rw [hi]
      have b0 : (0 : Int) ≤ (m : Int) := by omega
      have b2 : decide ((0 : Int) ≤ (m : Int)) = true := decide_eq_true b0
      have b1 : (m : Int) < (l.length : Int) := by omega
      obtain ⟨V, hV⟩ : ∃ V, V = wr := ⟨_, rfl⟩
      rw [← hV] at hO hB ⊢
      clear hV
      obtain ⟨bp, fp, rfl, hbp, hcc⟩ := (HP.out.mono hB.out).cell hml
      obtain ⟨x, hx⟩ : ∃ x, x = l[m] := ⟨_, rfl⟩
      have HX := Lib.hid hx
      rw [← hx] at hcc
      clear hx
      have c0 : V.cell? ⟨bp, fp + m * 6, none⟩ = some (.bool x.del) := hcc 0 _ rfl
      have c1 : V.cell? ⟨bp, fp + m * 6 + 1, none⟩ = some (.int .i64 x.rep) := hcc 1 _ rfl
      have c2 : V.cell? ⟨bp, fp + m * 6 + 2, none⟩ = some (.int .i64 x.cnt) := hcc 2 _ rfl
      have c3 : V.cell? ⟨bp, fp + m * 6 + 3, none⟩ = some (.int .i64 x.arep) := hcc 3 _ rfl
      have c4 : V.cell? ⟨bp, fp + m * 6 + 4, none⟩ = some (.int .i64 x.acnt) := hcc 4 _ rfl
      have c5 : V.cell? ⟨bp, fp + m * 6 + 5, none⟩ = some (.string x.line) := hcc 5 _ rfl
      clear hcc
      have hnx : l.reverse.take (k + 1) = l.reverse.take k ++ [x] := by
        rw [List.take_succ_eq_append_getElem (by simp; omega), List.getElem_reverse, HX.out]
        congr 3
        omega
      have HN := Lib.hid hnx
      have hpl : (l.reverse.take k).length = k := by simp; omega
      obtain ⟨L, hL⟩ : ∃ L, L = l.reverse.take k := ⟨_, rfl⟩
      rw [← hL] at hO HN hpl
      clear hL hnx hi
      have hz := hB.out.size
      go_wp2_with (at_builtin; refine StopR.out ?_)
      refine ⟨?_⟩
      refine wp_appL1 opE rfl _ _ rfl w.heap.size g L x ⟨V.heap.size, 0, none⟩ 1 rfl (ownE_up hO.out (up_alloc (Below.refl _ _) _)) rfl (boxO_at V x) (by rw [hpl]; show _ * 56 ≤ _; omega) (by omega) (by simp; omega) ?_
      intro v' w1 own1 gr1
      go_wp2_with fail
      go_roundw
      case rel => exact ⟨k + 1, _, hlt, rfl, by congr 1; omega, Lib.hid (by rw [HN.out]; exact own1), Lib.hid ((hB.out.trans ((up_alloc (Below.refl _ _) _).mono hz)).trans gr1)⟩
      case measure =>
        rw [show intOf (Value.int IntKind.i64 ((m : Int) - 1)) = (m : Int) - 1 from rfl, show intOf (Value.int IntKind.i64 (m : Int)) = (m : Int) from rfl]
        omega
    · have hkl : k = l.length := by omega
      subst hkl
      have hi : (l.length : Int) - 1 - (l.length : Int) = -1 := by omega
      rw [hi]
      have hO2 := hO.out
      rw [List.take_of_length_le (by simp)] at hO2
      have HO2 := Lib.hid hO2
      clear hO2 hO
      rename_i hKK
      have HK := Lib.hid hKK
      clear hKK
      go_wp2_with fail
      refine HK.out _ _ ?_
      clear HK
      go_wp2_with fail
      go_returns
      exact ⟨g, rfl, HO2.out, hB.out⟩
end Go.Proofs.Ytahfjkidhomnpaa
