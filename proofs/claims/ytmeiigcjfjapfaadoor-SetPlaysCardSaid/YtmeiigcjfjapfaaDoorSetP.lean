/- What stands while the law of plays goes on, and its calls by contract over that. -/
import Derived.Test.YtmeiigcjfjapfaaDoorSetR
namespace Go.Proofs.YtmeiigcjfjapfaaDoor.SetP
open Go.RowKit Go.Lib Go.Proofs Go.Proofs.YtmeiigcjfjapfaaDoor.SetPop Go.Proofs.YtmeiigcjfjapfaaDoor.SetA Go.Proofs.YtmeiigcjfjapfaaDoor.SetB Go.Proofs.YtmeiigcjfjapfaaDoor.SetC Go.Proofs.YtmeiigcjfjapfaaDoor.SetD Go.Proofs.YtmeiigcjfjapfaaDoor.SetE Go.Proofs.YtmeiigcjfjapfaaDoor.SetF Go.Proofs.YtmeiigcjfjapfaaDoor.SetJ Go.Proofs.YtmeiigcjfjapfaaDoor.SetM Go.Proofs.YtmeiigcjfjapfaaDoor.SetN Go.Proofs.YtmeiigcjfjapfaaDoor.SetQ Go.Proofs.YtmeiigcjfjapfaaDoor.SetR
set_option linter.unusedVariables false
set_option linter.unusedSimpArgs false
/-- Both families, in a world above W. -/
structure Pl (W w : World) (B R X z T n c : Nat) (M : List Nat) (K : List (Int × Int)) : Prop where
  bel : Below W.heap.size W w
  fam : Fam w B R n c M
  rf : RF w z T X n c K
  sz : T ≤ w.heap.size
  lt : B < z ∧ R < z
  up : W.heap.size ≤ R
variable {W w : World} {B R X z T n c : Nat} {M : List Nat} {K : List (Int × Int)}
theorem Pl.below {w' : World} (h : Pl W w B R X z T n c M K) (hb : Below w.heap.size w w') : Pl W w' B R X z T n c M K :=
  ⟨h.bel.trans (hb.mono h.bel.size), h.fam.below hb, h.rf.below h.sz hb, Nat.le_trans h.sz hb.size, h.lt, h.up⟩
theorem Pl.mono {T' : Nat} (h : Pl W w B R X z T n c M K) (h1 : T ≤ T') (h2 : T' ≤ w.heap.size) : Pl W w B R X z T' n c M K :=
  ⟨h.bel, h.fam, h.rf.mono h1, h2, h.lt, h.up⟩
theorem Pl.zW (h : Pl W w B R X z T n c M K) : W.heap.size ≤ z := by have := h.up; have := h.lt; omega
/-- The box of a pair. -/
def Bx (w : World) (b : Nat) (x y : Int) : Prop := w.heap[b]? = some (.cells #[.int .i64 x, .int .i64 y] 27 (0, 0))
theorem Bx.two {b : Nat} {x y : Int} (h : Bx w b x y) : ∀ o, w.cell? ⟨b, o, none⟩ = (#[.int .i64 x, .int .i64 y] : Array Value)[o]? := fun o => Lib.cell_of_heap h o
theorem Bx.lt {b : Nat} {x y : Int} (h : Bx w b x y) : b < w.heap.size := (Array.getElem?_eq_some_iff.1 h).1
theorem Bx.below {w' : World} {b : Nat} {x y : Int} (h : Bx w b x y) (hb : Below w.heap.size w w') : Bx w' b x y := (hb.block b h.lt).trans h
theorem below_drew (w : World) (q : Nat) : Below w.heap.size w (w.drewN q) := below_drewN (Below.refl _ w) q
def PP (W : World) (B R X z T n c : Nat) (M : List Nat) (K : List (Int × Int)) (b : Nat) (x y : Int) (r : Bool) (e : Ending) (w' : World) : Prop :=
  e = .returned (.bool r) ∧ Pl W w' B R X z T n c M K ∧ Bx w' b x y
theorem cAdd (h : Pl W w B R X z T n c M K) (hi : Inv n c M K) (b : Nat) (x y : Int) (hb : T ≤ b) (hx : Bx w b x y) :
    Calls Tryd.prog 7 #[.pointer (some ⟨B, 0, none⟩), .int .i64 x, .int .i64 y] w (PP W B R X z T n c (addN n c M x y) K b x y (mayB n c x y && !hasL K x y)) := by
  refine (add_ B R n c M x y w h.fam).mono ?_
  rintro e w' ⟨rfl, hf, hg⟩
  have hlo := h.rf.lo
  have hhi := h.rf.hi
  refine ⟨by rw [hi.addB], ⟨Fam.grown h.bel hg h.up, hf, h.rf.keep (fun j h1 h2 => ?_), Nat.le_trans h.sz hg.size, h.lt, h.up⟩, ?_⟩
  · exact hg.block j (by have := h.sz; omega) (by have := h.lt; simp; omega)
  · exact (hg.block b hx.lt (by have := h.lt; simp; omega)).trans hx
theorem cAddR (h : Pl W w B R X z T n c M K) (hK : K.length ≤ 1000) (b : Nat) (x y : Int) (hb : T ≤ b) (hx : Bx w b x y) :
    Calls Tryd.prog 8 #[.pointer (some ⟨X, 0, none⟩), .int .i64 x, .int .i64 y] w (fun e w' => PP W B R X z w'.heap.size n c M (putL n c K x y) b x y (mayB n c x y && !hasL K x y) e w') := by
  refine (addRef z T X n c K x y w h.rf h.sz hK).mono ?_
  rintro e w' ⟨rfl, hr, hbel, hk⟩
  refine ⟨rfl, ⟨h.bel.trans (hbel.mono h.zW), h.fam.keep (hbel.block _ h.lt.1) (hbel.block _ h.lt.2), hr, Nat.le_refl _, h.lt, h.up⟩, (hk b hb hx.lt).trans hx⟩
theorem cHas (h : Pl W w B R X z T n c M K) (hi : Inv n c M K) (x y : Int) :
    Calls Tryd.prog 9 #[.pointer (some ⟨B, 0, none⟩), .int .i64 x, .int .i64 y] w (BoolPost (hasL K x y) w) := by
  refine (has_ B R n c M x y w h.fam).mono ?_
  rintro e w' ⟨rfl, q, rfl⟩
  exact ⟨by rw [hi.has], below_drew w q⟩
theorem cHasR (h : Pl W w B R X z T n c M K) (hK : K.length ≤ 1000) (x y : Int) :
    Calls Tryd.prog 10 #[.pointer (some ⟨X, 0, none⟩), .int .i64 x, .int .i64 y] w (BoolPost (hasL K x y) w) := by
  obtain ⟨A, ca, hrd⟩ := h.rf.rd
  exact hasRef X n c A ca K x y w hrd hK
def IntPost (r : Nat) (w : World) (e : Ending) (w' : World) : Prop := e = .returned (.int .i64 r) ∧ Below w.heap.size w w'
theorem cTotal (h : Pl W w B R X z T n c M K) (hi : Inv n c M K) :
    Calls Tryd.prog 11 #[.pointer (some ⟨B, 0, none⟩)] w (IntPost K.length w) := by
  have := total B R n c M w h.fam
  rw [hi.tot] at this
  exact this
theorem cLen (h : Pl W w B R X z T n c M K) (hi : Inv n c M K) (x : Int) :
    Calls Tryd.prog 12 #[.pointer (some ⟨B, 0, none⟩), .int .i64 x] w (IntPost (listL c K x).length w) := by
  have := len_ B R n c M x w h.fam
  rw [hi.cnt] at this
  exact this
theorem cInside (h : Pl W w B R X z T n c M K) (hi : Inv n c M K) (x y : Int) :
    Calls Tryd.prog 14 #[.pointer (some ⟨B, 0, none⟩), .int .i64 x, .int .i64 y] w (BoolPost (insideL K x y) w) := by
  have := inside_ B R n c M x y w h.fam
  rw [hi.inside (fun r => rowI_small h.fam r)] at this
  exact this
theorem cMeets (h : Pl W w B R X z T n c M K) (hi : Inv n c M K) (x y : Int) :
    Calls Tryd.prog 16 #[.pointer (some ⟨B, 0, none⟩), .int .i64 x, .int .i64 y] w (BoolPost (meetsL K x y) w) := by
  have := meets_ B R n c M x y w h.fam
  rw [hi.meets (fun r => rowI_small h.fam r)] at this
  exact this
theorem cInsideR (h : Pl W w B R X z T n c M K) (hK : K.length ≤ 1000) (x y : Int) :
    Calls Tryd.prog 15 #[.pointer (some ⟨X, 0, none⟩), .int .i64 x, .int .i64 y] w (BoolPost (insideL K x y) w) := by
  obtain ⟨A, ca, hrd⟩ := h.rf.rd
  exact insideRef X n c A ca K x y w hrd hK
theorem cMeetsR (h : Pl W w B R X z T n c M K) (hK : K.length ≤ 1000) (x y : Int) :
    Calls Tryd.prog 17 #[.pointer (some ⟨X, 0, none⟩), .int .i64 x, .int .i64 y] w (BoolPost (meetsL K x y) w) := by
  obtain ⟨A, ca, hrd⟩ := h.rf.rd
  exact meetsRef X n c A ca K x y w hrd hK
def RowPost (L : List Nat) (w : World) (e : Ending) (w' : World) : Prop := ∃ A ca, e = .returned (.slice A L.length ca) ∧ NG w' A L ∧ Below w.heap.size w w'
theorem cList (h : Pl W w B R X z T n c M K) (hi : Inv n c M K) (hT : Tab w) (x : Int) :
    Calls Tryd.prog 19 #[.pointer (some ⟨B, 0, none⟩), .int .i64 x] w (RowPost (listL c K x) w) := by
  have := list_at (.pointer (some ⟨B, 0, none⟩)) (rowI n M x) x w (rowI_len h.fam.len x) (rowI_small h.fam x) hT (at_ B R n c M x w h.fam)
  rw [hi.list] at this
  refine this.mono ?_
  rintro e w' ⟨v, rfl, hown, hb⟩
  obtain ⟨A, ca, rfl, hng⟩ := ng_own hown
  exact ⟨A, ca, rfl, hng, hb⟩
theorem cListR (h : Pl W w B R X z T n c M K) (hK : K.length ≤ 1000) (hc : c ≤ 1000) (x : Int) :
    Calls Tryd.prog 13 #[.pointer (some ⟨X, 0, none⟩), .int .i64 x] w (RowPost (listL c K x) w) := by
  obtain ⟨A, ca, hrd⟩ := h.rf.rd
  refine (listRef X n c A ca K x w hrd hK hc).mono ?_
  rintro e w' ⟨v, rfl, hown, hb⟩
  obtain ⟨A, ca, rfl, hng⟩ := ng_own hown
  exact ⟨A, ca, rfl, hng, hb⟩
theorem Pl.in_ (h : Pl W w B R X z T n c M K) : ∃ A ca, w.cell? ⟨X, 2, none⟩ = some (.slice A K.length ca) := by
  obtain ⟨A, ca, hrd⟩ := h.rf.rd
  exact ⟨A, ca, hrd.cell.2.2⟩
theorem Pl.rows (h : Pl W w B R X z T n c M K) : w.cell? ⟨X, 0, none⟩ = some (.int .i64 n) ∧ w.cell? ⟨X, 1, none⟩ = some (.int .i64 c) := by
  obtain ⟨A, ca, hrd⟩ := h.rf.rd
  exact ⟨hrd.cell.1, hrd.cell.2.1⟩
end Go.Proofs.YtmeiigcjfjapfaaDoor.SetP
