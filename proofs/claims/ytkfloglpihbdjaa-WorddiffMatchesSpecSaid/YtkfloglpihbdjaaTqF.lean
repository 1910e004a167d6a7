
/-
  The program's Invert and the function that it hands to eachHunk, walked.
-/
import Derived.Test.YtkfloglpihbdjaaTqE
import Derived.Test.YtkfloglpihbdjaaTpF
import Derived.Laws.EntriesVeiled
import Derived.Deep.RegionHeld3
namespace Go.Proofs.Ytkfloglpihbdjaa
open Go.RowKit
set_option maxRecDepth 4000

/-- a hunk made anew is appended to the patch of block pg -/
theorem pushedN {pg C : Nat} {v v2 : Value} {qs : List Q} {w G w2 : World} {o n : Sv} {h : Tp.H} {ob : Obj} (hV : PBs C pg qs.length w v qs) (M : Made w G (sv o) (sv n) h.old h.new)
    (s1 : ∀ x ∈ h.old, x.size ≤ 140737488351232) (s2 : ∀ x ∈ h.new, x.size ≤ 140737488351232) (l1 : h.old.length ≤ 281474976710656) (l2 : h.new.length ≤ 281474976710656)
    (gr : (G.alloc ob).grownBy w2 v.ownBlock) (own : OwnE hkE C w2 v2 (qs.map Q.raw ++ [(h.at', o, n)]))
    (hat : v2.ownBlock = v.ownBlock ∨ v2.ownBlock = some (G.alloc ob).heap.size) :
    PBs C pg (qs ++ [((h, o, n) : Q)]).length (w2.setCell ⟨pg, 0, none⟩ v2) v2 (qs ++ [((h, o, n) : Q)]) ∧ Below pg w (w2.setCell ⟨pg, 0, none⟩ v2) ∧
      (∀ k, k < w.heap.size → k ≠ pg → v.ownBlock ≠ some k → (w2.setCell ⟨pg, 0, none⟩ v2).heap[k]? = w.heap[k]?) ∧ (∀ b, v2.ownBlock = some b → v.ownBlock = some b ∨ w.heap.size ≤ b) := by
  have hpl := hV.pl
  have hbl := hV.bl
  have VG := hV.up M.bel
  have G2 : G.grownBy w2 v.ownBlock := grow_trans (World.grownBy_alloc G ob none) gr
  have hvw : ∀ b, v.ownBlock = some b → C ≤ b ∧ b < w.heap.size := fun b hb => own_block hV.own b hb
  have P := VG.push ((h, o, n) : Q) (qok_new (W := w.heap.size) (h := h) M.own1 M.own2 (fun b hb => (hvw b hb).2) hbl s1 s2 l1 l2) G2 own (G.alloc ob).heap.size (by simp) hat
  have hz := M.bel.size
  have B : ∀ k, k < w.heap.size → k ≠ pg → v.ownBlock ≠ some k → (w2.setCell ⟨pg, 0, none⟩ v2).heap[k]? = w.heap[k]? := fun k hk hne hv => by
    rw [Below.heap_setCell _ _ _ _ (by exact hne), G2.block k (by omega) (fun e => hv e.symm), M.bel.block k hk]
  refine ⟨by rw [List.length_append]; exact P, ⟨G2.os.trans M.bel.os, G2.tape.trans M.bel.tape, G2.output.trans M.bel.output, by rw [World.size_setCell]; exact Nat.le_trans M.bel.size G2.size, fun k hk => B k (by omega) (by omega) (fun e => by have := hvw _ e; omega)⟩, B, fun b hb => ?_⟩
  rcases hat with e | e
  · left; rw [← e, hb]
  · right; rw [e] at hb; cases hb; simp; omega

set_option maxRecDepth 100000 in
set_option maxHeartbeats 4000000 in
theorem inv1_any (pg C : Nat) (a : Int) (o n : Sv) (hq : Tp.H) (v : Value) (qs : List Q) (w : World) (hV : PBs C pg qs.length w v qs) (ro : Rd w o hq.old) (rn : Rd w n hq.new) (lo : hq.old.length ≤ 1000) (ln : hq.new.length ≤ 1000) (lq : qs.length ≤ 1000) :
    Calls Try.prog 39 #[.agg #[.int .i64 hq.at', sv o, sv n], .int .i64 a, .pointer (some ⟨pg, 0, none⟩)] w
      fun e w2 => e = .returned (.tuple #[]) ∧ ∃ v2 qs', PBs C pg qs'.length w2 v2 qs' ∧ qs'.map (·.1) = qs.map (·.1) ++ [⟨a, hq.new, hq.old⟩] ∧ Below pg w w2 ∧
        (∀ k, k < w.heap.size → k ≠ pg → v.ownBlock ≠ some k → w2.heap[k]? = w.heap[k]?) ∧ (∀ b, v2.ownBlock = some b → v.ownBlock = some b ∨ w.heap.size ≤ b) := by
  obtain ⟨o1, o2, o3⟩ := o
  obtain ⟨n1, n2, n3⟩ := n
  obtain ⟨q1, e1, k1, -⟩ := ro
  obtain ⟨q2, e2, k2, -⟩ := rn
  dsimp only at q1 e1 k1 q2 e2 k2
  subst e1 e2
  simp only [sv]
  have hb1 := up_alloc (Below.refl w.heap.size w) (.cells #[.int .i64 hq.at', .slice o1 hq.old.length o3, .slice n1 hq.new.length n3] 67 (0, 0))
  have U1 := Lib.hid (Hu.new w hq.at' (.slice o1 hq.old.length o3) (.slice n1 hq.new.length n3) 67)
  have V1 := Lib.hid (hV.up hb1)
  have Q1 := Lib.hid (q1.mono hb1)
  have Q2 := Lib.hid (q2.mono hb1)
  have HB1 := Lib.hid hb1
  have hW1 : (w.alloc (.cells #[.int .i64 hq.at', .slice o1 hq.old.length o3, .slice n1 hq.new.length n3] 67 (0, 0))).heap.size = w.heap.size + 1 := by simp
  have HPL := Lib.hid (And.intro hV.pl hV.bl)
  clear hV q1 q2 hb1
  go_enter Try.func39, Try.ntmps39
  go_wp2_with fail
  obtain ⟨W, hW⟩ : ∃ W, W = w.alloc (.cells #[.int .i64 hq.at', .slice o1 hq.old.length o3, .slice n1 hq.new.length n3] 67 (0, 0)) := ⟨_, rfl⟩
  rw [← hW] at U1 V1 Q1 Q2 HB1 hW1 ⊢
  clear hW
  obtain ⟨x0, x1, x2, x3⟩ := U1.out
  have K1 := fun (X : World) (hX : Sts X n1 hq.new) => sclone_any n1 hq.new hq.new.length n3 X rfl hX k2 (by omega)
  have K2 := fun (X : World) (hX : Sts X o1 hq.old) => sclone_any o1 hq.old hq.old.length o3 X rfl hX k1 (by omega)
  have y1 := World.new_ne W ⟨w.heap.size, 1, none⟩ x1
  have y2 := World.new_ne W ⟨w.heap.size, 2, none⟩ x2
  have HZ : Hid (Hz (W.alloc (.cells #[.int .i64 0, .slice none 0 0, .slice none 0 0] 67 (0, 0))).drew W.heap.size) := Lib.hid (Hz.new W 67).drew
  have HW1 := Lib.hid hW1
  clear hW1
  go_region_held3 (fun w' => w'.cell? ⟨w.heap.size, 1, none⟩ = some (.slice o1 hq.old.length o3) ∧ w'.cell? ⟨w.heap.size, 2, none⟩ = some (.slice n1 hq.new.length n3)) (go_keep)
    (first
      | (go_at_call_of 40 n1
         refine (K1 _ (by first | exact Q2.out.mono (Below.refl _ _).drew | exact Q2.out.mono ((Below.refl _ _).alloc (Nat.le_refl _) _).drew)).mono ?_
         rintro e wA ⟨m1, m2, m3, rfl, ownA, hbA⟩
         have OA := Lib.hid ownA
         have BA : Hid (Below W.heap.size W wA) := Lib.hid (by first | exact (Below.refl _ _).drew.trans (hbA.mono (by simp)) | exact (((Below.refl _ _).alloc (Nat.le_refl _) _).drew).trans (hbA.mono (by simp)))
         have zA := BA.out.size
         have c1A := (BA.out.cell (p := ⟨w.heap.size, 1, none⟩) x3).trans x1
         have c2A := (BA.out.cell (p := ⟨w.heap.size, 2, none⟩) x3).trans x2
         have t1A := cell_block_lt c1A
         have y1A := World.new_ne wA ⟨w.heap.size, 1, none⟩ c1A
         have y2A := World.new_ne wA ⟨w.heap.size, 2, none⟩ c2A
         first | (have HZA := Lib.hid (HZ.out.up hbA)) | (have HZA := Lib.hid (Hz.new wA 67))
         clear ownA hbA)
      | (go_at_call_of 40 o1
         refine (K2 _ (by first | exact Q1.out.mono BA.out | exact Q1.out.mono (BA.out.alloc zA _))).mono ?_
         rintro e wB ⟨r1, r2, r3, rfl, ownB, hbB⟩
         have OB := Lib.hid ownB
         have BB : Hid (Below wA.heap.size wA wB) := Lib.hid (by first | exact hbB | exact ((Below.refl _ _).alloc (Nat.le_refl _) _).trans (hbB.mono (by simp)))
         have zB := BB.out.size
         have c1B := (BB.out.cell (p := ⟨w.heap.size, 1, none⟩) t1A).trans c1A
         have c2B := (BB.out.cell (p := ⟨w.heap.size, 2, none⟩) t1A).trans c2A
         have t1B := cell_block_lt c1B
         have y1B := World.new_ne wB ⟨w.heap.size, 1, none⟩ c1B
         have y2B := World.new_ne wB ⟨w.heap.size, 2, none⟩ c2B
         first | (have HZB := Lib.hid (HZA.out.up hbB); obtain ⟨v0, v1, v2, v3, v4, v5, v6⟩ := HZB.out) | skip
         clear ownB hbB))
  all_goals first
      | (with_reducible show Exit.then _ _ Exit.normal _ (wB.alloc (.cells #[.int .i64 a, .slice m1 m2 m3, .slice r1 r2 r3] 67 (0, 0)))
         have M : Hid (Made W (wB.alloc (.cells #[.int .i64 a, .slice m1 m2 m3, .slice r1 r2 r3] 67 (0, 0))) (.slice m1 m2 m3) (.slice r1 r2 r3) hq.new hq.old) := Lib.hid ⟨(BA.out.trans (BB.out.mono zA)).alloc (by omega) _, ((OA.out.up BB.out).alloc _).le (by first | exact Nat.le_refl _ | simp | (simp; omega)), (OB.out.alloc _).le (by first | exact zA | (simp; omega))⟩
         have h0 : (wB.alloc (.cells #[.int .i64 a, .slice m1 m2 m3, .slice r1 r2 r3] 67 (0, 0))).cell? ⟨wB.heap.size, 0, none⟩ = some (.int .i64 a) := by rw [World.cell?_alloc_mark]; rfl
         have h1' : (wB.alloc (.cells #[.int .i64 a, .slice m1 m2 m3, .slice r1 r2 r3] 67 (0, 0))).cell? ⟨wB.heap.size, 1, none⟩ = some (.slice m1 m2 m3) := by rw [World.cell?_alloc_mark]; rfl
         have h2' : (wB.alloc (.cells #[.int .i64 a, .slice m1 m2 m3, .slice r1 r2 r3] 67 (0, 0))).cell? ⟨wB.heap.size, 2, none⟩ = some (.slice r1 r2 r3) := by rw [World.cell?_alloc_mark]; rfl
         generalize wB.alloc (.cells #[.int .i64 a, .slice m1 m2 m3, .slice r1 r2 r3] 67 (0, 0)) = G at M h0 h1' h2' ⊢
         generalize wB.heap.size = hb at h0 h1' h2' ⊢)
      | (with_reducible show Exit.then _ _ Exit.normal _ (((wB.setCell ⟨wA.heap.size, 0, none⟩ (.int .i64 a)).setCell ⟨wA.heap.size, 1, none⟩ (.slice m1 m2 m3)).setCell ⟨wA.heap.size, 2, none⟩ (.slice r1 r2 r3))
         have MB : Made W wB (.slice m1 m2 m3) (.slice r1 r2 r3) hq.new hq.old := ⟨BA.out.trans (BB.out.mono zA), (OA.out.up BB.out).le (by first | exact Nat.le_refl _ | simp | (simp; omega)), OB.out.le (by first | exact zA | (simp; omega))⟩
         have M : Hid (Made W (((wB.setCell ⟨wA.heap.size, 0, none⟩ (.int .i64 a)).setCell ⟨wA.heap.size, 1, none⟩ (.slice m1 m2 m3)).setCell ⟨wA.heap.size, 2, none⟩ (.slice r1 r2 r3)) (.slice m1 m2 m3) (.slice r1 r2 r3) hq.new hq.old) := Lib.hid (((MB.set zA (fun z hz => by have := own_block OA.out z hz; omega) (fun z hz => by have := own_block OB.out z hz; simp at this; omega) _).set zA (fun z hz => by have := own_block OA.out z hz; omega) (fun z hz => by have := own_block OB.out z hz; simp at this; omega) _).set zA (fun z hz => by have := own_block OA.out z hz; omega) (fun z hz => by have := own_block OB.out z hz; simp at this; omega) _)
         obtain ⟨h0, h1', h2'⟩ := HZB.out.set3 (.int .i64 a) (.slice m1 m2 m3) (.slice r1 r2 r3)
         clear MB
         generalize (((wB.setCell ⟨wA.heap.size, 0, none⟩ (.int .i64 a)).setCell ⟨wA.heap.size, 1, none⟩ (.slice m1 m2 m3)).setCell ⟨wA.heap.size, 2, none⟩ (.slice r1 r2 r3)) = G at M h0 h1' h2' ⊢
         generalize wA.heap.size = hb at h0 h1' h2' ⊢)
      | (with_reducible show Exit.then _ _ Exit.normal _ (((wB.setCell ⟨W.heap.size, 0, none⟩ (.int .i64 a)).setCell ⟨W.heap.size, 1, none⟩ (.slice m1 m2 m3)).setCell ⟨W.heap.size, 2, none⟩ (.slice r1 r2 r3))
         have MB : Made W wB (.slice m1 m2 m3) (.slice r1 r2 r3) hq.new hq.old := ⟨BA.out.trans (BB.out.mono zA), (OA.out.up BB.out).le (by first | exact Nat.le_refl _ | simp | (simp; omega)), OB.out.le (by first | exact zA | (simp; omega))⟩
         have M : Hid (Made W (((wB.setCell ⟨W.heap.size, 0, none⟩ (.int .i64 a)).setCell ⟨W.heap.size, 1, none⟩ (.slice m1 m2 m3)).setCell ⟨W.heap.size, 2, none⟩ (.slice r1 r2 r3)) (.slice m1 m2 m3) (.slice r1 r2 r3) hq.new hq.old) := Lib.hid (((MB.set (Nat.le_refl _) (fun z hz => by have := own_block OA.out z hz; simp at this; omega) (fun z hz => by have := own_block OB.out z hz; have := HZA.out.lt; omega) _).set (Nat.le_refl _) (fun z hz => by have := own_block OA.out z hz; simp at this; omega) (fun z hz => by have := own_block OB.out z hz; have := HZA.out.lt; omega) _).set (Nat.le_refl _) (fun z hz => by have := own_block OA.out z hz; simp at this; omega) (fun z hz => by have := own_block OB.out z hz; have := HZA.out.lt; omega) _)
         obtain ⟨h0, h1', h2'⟩ := HZB.out.set3 (.int .i64 a) (.slice m1 m2 m3) (.slice r1 r2 r3)
         clear MB
         generalize (((wB.setCell ⟨W.heap.size, 0, none⟩ (.int .i64 a)).setCell ⟨W.heap.size, 1, none⟩ (.slice m1 m2 m3)).setCell ⟨W.heap.size, 2, none⟩ (.slice r1 r2 r3)) = G at M h0 h1' h2' ⊢
         have hb' : ∃ hb, hb = W.heap.size := ⟨_, rfl⟩)
  all_goals
    have hpb : pg < W.heap.size := by have := HPL.out.1; have := HPL.out.2; have := HW1.out; omega
    have pc : G.cell? ⟨pg, 0, none⟩ = some v := by rw [M.out.bel.cell (p := ⟨pg, 0, none⟩) hpb, V1.out.pc]
    have pf : G.frozen? ⟨pg, 0, none⟩ = false := by rw [M.out.bel.frozen (p := ⟨pg, 0, none⟩) hpb, V1.out.pf]
    have hvp : v.ownBlock ≠ some pg := fun e => by have := own_block V1.out.own _ e; have := HPL.out.1; omega
    have GV := Lib.hid (V1.out.up M.out.bel)
    have hGC : C ≤ G.heap.size := by have := M.out.bel.size; have := V1.out.bl; omega
    have hpG : pg < G.heap.size := by have := HPL.out.1; omega
    clear K1 K2 HZ y1 y2 x0 x1 x2 x3
    go_wp2_with (at_builtin; refine wp_appE_at hkE rfl (.tmp 15) (.tmp 17) rfl C v (qs.map Q.raw) (a, (m1, m2, m3), (r1, r2, r3)) _ _ rfl (GV.out.own.alloc _) rfl (hunk_one _ _ (m1, m2, m3) (r1, r2, r3) _) (by simp [hkE]; omega) (by simp; omega) (by simp; omega) ?_; intro v2 w2 own2 gr2 hat2
                 obtain ⟨gg, cc, rfl⟩ := own_succ (m := qs.length) own2 (by simp)
                 have G2 : World.grownBy G w2 v.ownBlock := by refine grow_trans ?_ gr2; exact ⟨rfl, rfl, rfl, by simp, fun k hk _ => Below.heap_alloc _ _ _ hk⟩
                 have z1 := G2.cell pc (Ne.symm hvp)
                 have z2 : w2.frozen? ⟨pg, 0, none⟩ = false := by rw [G2.frozen_far ⟨pg, 0, none⟩ (by dsimp only; omega) (Ne.symm hvp), pf])
    have PU := Lib.hid (pushedN (o := (m1, m2, m3)) (n := (r1, r2, r3)) (h := ⟨a, hq.new, hq.old⟩) V1.out M.out Q2.out.small Q1.out.small (by dsimp only; omega) (by dsimp only; omega) gr2 own2 hat2)
    clear own2 gr2 hat2 G2
    go_wp2_with fail
    go_returns
    refine ⟨rfl, _, _, PU.out.1, by rw [List.map_append]; rfl, ?_, fun k hk h1 h2 => ?_, fun b hb => ?_⟩
    · exact (HB1.out.mono (by have := HPL.out.1; have := HPL.out.2; omega)).trans PU.out.2.1
    · rw [PU.out.2.2.1 k (by have := HW1.out; omega) h1 h2, HB1.out.block k hk]
    · rcases PU.out.2.2.2 b hb with e | e
      · exact .inl e
      · exact .inr (by have := HW1.out; omega)
end Go.Proofs.Ytkfloglpihbdjaa
