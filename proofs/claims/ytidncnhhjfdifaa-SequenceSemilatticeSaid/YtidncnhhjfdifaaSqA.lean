
/-
  Package sequence: an operation; the small functions on one.
-/
import Derived.Test.YtidncnhhjfdifaaSqK
import Derived.Test.YtidncnhhjfdifaaOwn
import Derived.Test.YtidncnhhjfdifaaOver
import Derived.Test.YtidncnhhjfdifaaReg
namespace Go.Proofs.Ytidncnhhjfdifaa
open Go.RowKit
set_option maxRecDepth 4000

/-- an operation -/
structure Sq.O where
  del : Bool
  rep : Int
  cnt : Int
  arep : Int
  acnt : Int
  line : ByteArray
  deriving DecidableEq
namespace Sq
def O.enc (o : O) : List Value := [.bool o.del, .int .i64 o.rep, .int .i64 o.cnt, .int .i64 o.arep, .int .i64 o.acnt, .string o.line]
def O.v (o : O) : Value := .agg #[.bool o.del, .int .i64 o.rep, .int .i64 o.cnt, .int .i64 o.arep, .int .i64 o.acnt, .string o.line]
def O.el (o : O) : El := (o.cnt, o.rep)
def O.pr (o : O) : El := (o.acnt, o.arep)
def O.kd (o : O) : Int := if o.del then 1 else 0
def O.id (o : O) : Id := (o.el, o.kd)
end Sq
def opE : Enc Sq.O where
  ty := 53
  sl := 41
  size := 6
  bytes := 56
  z := .agg #[.bool false, .int .i64 0, .int .i64 0, .int .i64 0, .int .i64 0, .string ByteArray.empty]
  enc := Sq.O.enc
  len _ := rfl
  one x u hu := by
    simp only [Sq.O.enc, List.mem_cons, List.not_mem_nil, or_false] at hu
    rcases hu with rfl | rfl | rfl | rfl | rfl | rfl <;> rfl
  pos := by omega
  zs := rfl
  und := Try.underlying41
  inf := by kernel_rfl

/-- the world behind the boxing of an operation -/
def boxO (w : World) (o : Sq.O) : World := w.alloc (.cells #[.bool o.del, .int .i64 o.rep, .int .i64 o.cnt, .int .i64 o.arep, .int .i64 o.acnt, .string o.line] 53 (0, 0))
theorem boxO_up (w : World) (o : Sq.O) : Below w.heap.size w (boxO w o) := up_alloc (Below.refl _ _) _

/-- what a function hands back that lays blocks alone, and draws -/
def GPost (v : Value) (w : World) (e : Ending) (w' : World) : Prop := e = .returned v ∧ Below w.heap.size w w' ∧ w.drawn ≤ w'.drawn
theorem of_g {f : FuncId} {args : Array Value} {w : World} {v : Value} (h : Calls Try.prog f args w (GPost v w)) : Calls Try.prog f args w (BPost v w) := h.mono fun _ _ ⟨a, b, _⟩ => ⟨a, b⟩
set_option maxRecDepth 100000 in
theorem elementOf_g (o : Sq.O) (w : World) : Calls Try.prog 52 #[o.v] w (GPost (elV o.el) w) := by
  have up0 := boxO_up w o
  obtain ⟨d, r, c, ar, ac, l⟩ := o
  unfold Sq.O.v
  unfold boxO at up0
  dsimp only at up0
  go_enter Try.func52, Try.ntmps52
  go_wp2_with fail
  refine bodyPost_ret (v := elV (c, r)) (by simp [results, Try.results52, go_sem, elV]) rfl ⟨rfl, ?_, Nat.le_refl _⟩
  exact up_alloc up0 _
theorem elementOf_any (o : Sq.O) (w : World) : Calls Try.prog 52 #[o.v] w (BPost (elV o.el) w) := of_g (elementOf_g o w)
set_option maxRecDepth 100000 in
theorem predecessorOf_any (o : Sq.O) (w : World) : Calls Try.prog 53 #[o.v] w (BPost (elV o.pr) w) := by
  have up0 := boxO_up w o
  obtain ⟨d, r, c, ar, ac, l⟩ := o
  unfold Sq.O.v
  unfold boxO at up0
  dsimp only at up0
  go_enter Try.func53, Try.ntmps53
  go_wp2_with fail
  refine bodyPost_ret (v := elV (ac, ar)) (by simp [results, Try.results53, go_sem, elV]) rfl ⟨rfl, ?_⟩
  exact up_alloc up0 _
set_option maxRecDepth 100000 in
theorem kindOf_g (o : Sq.O) (w : World) : Calls Try.prog 84 #[o.v] w (GPost (.int .i64 o.kd) w) := by
  have up0 := boxO_up w o
  obtain ⟨d, r, c, ar, ac, l⟩ := o
  unfold Sq.O.v
  unfold boxO at up0
  dsimp only at up0
  cases d
  all_goals
    go_enter Try.func84, Try.ntmps84
    go_wp2_with fail
    go_returns
    exact ⟨rfl, up0, Nat.le_refl _⟩
theorem beq_d (a b : Int) : (a == b) = decide (a = b) := by by_cases h : a = b <;> simp [h]
def Sq.inR (x : El) : Bool := decide (1 ≤ x.1) && decide (x.1 ≤ 1000000000) && decide (0 ≤ x.2) && decide (x.2 < 6)
theorem kindOf_any (o : Sq.O) (w : World) : Calls Try.prog 84 #[o.v] w (BPost (.int .i64 o.kd) w) := of_g (kindOf_g o w)
set_option maxRecDepth 100000 in
theorem inRange_any (x : El) (w : World) : Calls Try.prog 89 #[elV x] w (BPost (.bool (Sq.inR x)) w) := by
  have up0 : Below w.heap.size w (w.alloc (.cells #[.int .i64 x.1, .int .i64 x.2] 77 (0, 0))) := up_alloc (Below.refl _ _) _
  obtain ⟨a, b⟩ := x
  dsimp only at up0
  unfold elV
  dsimp only
  cases h1 : decide (1 ≤ a)
  case' true =>
    cases h2 : decide (a ≤ 1000000000)
    case' true =>
      cases h3 : decide (0 ≤ b)
      case' true => cases h4 : decide (b < 6)
  all_goals
    go_enter Try.func89, Try.ntmps89
    go_wp2_with fail
    go_returns
    refine ⟨?_, up0⟩
    simp [Sq.inR, *]
end Go.Proofs.Ytidncnhhjfdifaa
