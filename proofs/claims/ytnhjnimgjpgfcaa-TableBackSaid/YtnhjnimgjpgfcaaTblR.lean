/- Tables: the statement of a rule, by contract. -/
import Derived.Test.YtnhjnimgjpgfcaaTblQ
import Derived.Test.YtnhjnimgjpgfcaaSyn6
import Derived.Deep.CutBlock
import Derived.Deep.LoopGhost
namespace Go.Proofs.Ytnhjnimgjpgfcaa.TblR
open Go.RowKit Go.Sort Go.Lib Go.Proofs Go.Proofs.Ytnhjnimgjpgfcaa.Plain Go.Proofs.Ytnhjnimgjpgfcaa.SynP Go.Proofs.Ytnhjnimgjpgfcaa.SynE Go.Proofs.Ytnhjnimgjpgfcaa.Grown Go.Proofs.Ytnhjnimgjpgfcaa.TabP Go.Proofs.Ytnhjnimgjpgfcaa.Tab1 Go.Proofs.Ytnhjnimgjpgfcaa.Tab2 Go.Proofs.Ytnhjnimgjpgfcaa.RolK Go.Proofs.Ytnhjnimgjpgfcaa.TblA Go.Proofs.Ytnhjnimgjpgfcaa.TblB Go.Proofs.Ytnhjnimgjpgfcaa.TblC Go.Proofs.Ytnhjnimgjpgfcaa.TblF Go.Proofs.Ytnhjnimgjpgfcaa.TblI Go.Proofs.Ytnhjnimgjpgfcaa.TblP Go.Proofs.Ytnhjnimgjpgfcaa.TblQ
set_option linter.unusedVariables false
set_option linter.unusedSimpArgs false
def txt (l : Str) : ByteArray := ⟨l.toArray⟩
/-- The role with that number. -/
def rolI (P L : List Str) (i : Int) : Rl := if 0 ≤ i ∧ i < ((P.length * L.length : Nat) : Int) then ⟨txt (P.getD (i.toNat / L.length) []), txt (L.getD (i.toNat % L.length) [])⟩ else zeroR
/-- The statement of a rule, before its roles are put in order. -/
def stU (P L : List Str) (u : Ru) : St := ⟨u.kind, rolI P L u.head, if u.kind = 1 then txt (P.getD u.who.toNat []) else noText, if u.kind = 1 then zeroR else rolI P L u.a, if u.kind = 4 then rolI P L u.b else zeroR, if u.kind = 3 then txt (L.getD u.via.toNat []) else noText⟩
def stA (P L : List Str) (u : Ru) : St := if rightU P.length L.length u then (stU P L u).normal else zeroS
section
variable {w : World} {t a b : Nat} {A1 : Option Addr} {c1 : Nat} {A2 : Option Addr} {c2 : Nat} {P L : List Str}
theorem roleAt (h : TblK w t a b A1 c1 A2 c2 P L) (i : Int) : Calls Try.prog 19 #[.pointer (some ⟨t, 0, none⟩), .int .i64 i] w fun e w' => e = .returned (rolI P L i).val ∧ RowKit.Below w.heap.size w w' := by
  unfold rolI
  by_cases hi : 0 ≤ i ∧ i < ((P.length * L.length : Nat) : Int)
  · rw [if_pos hi]
    have h0 : 0 < L.length := by
      rcases Nat.eq_zero_or_pos L.length with h0 | h0
      · rw [h0, Nat.mul_zero] at hi; omega
      · exact h0
    have hj : i.toNat < P.length * L.length := by omega
    have hx : i.toNat / L.length < P.length := Nat.div_lt_of_lt_mul (by rw [Nat.mul_comm]; exact hj)
    have hy : i.toNat % L.length < L.length := Nat.mod_lt _ h0
    have := roleAt_in h (i.toNat / L.length) (i.toNat % L.length) hx hy
    have e : ((i.toNat / L.length * L.length + i.toNat % L.length : Nat) : Int) = i := by
      rw [Nat.mul_comm, Nat.div_add_mod]; omega
    rw [e] at this
    rw [List.getD_eq_getElem?_getD, List.getD_eq_getElem?_getD, List.getElem?_eq_getElem hx, List.getElem?_eq_getElem hy]
    exact this
  · rw [if_neg hi]
    exact roleAt_out h i (by omega)
end
def St.arr (s : St) : Array Value := #[.int .i64 s.kind, .string s.head.owner, .string s.head.name, .string s.who, .string s.a.owner, .string s.a.name, .string s.b.owner, .string s.b.name, .string s.via]
theorem infoSt : (Try.prog.info? 26).map (·.size) = some 9 := by kernel_rfl
theorem cell_st {w : World} {n : Nat} {old : Array Value} (s : St) (h : w.heap[n]? = some (.cells old 26 (0, 0))) (o : Nat) : (w.setRow n #[.int .i64 s.kind, .string s.head.owner, .string s.head.name, .string s.who, .string s.a.owner, .string s.a.name, .string s.b.owner, .string s.b.name, .string s.via]).cell? ⟨n, o, none⟩ = (#[.int .i64 s.kind, .string s.head.owner, .string s.head.name, .string s.who, .string s.a.owner, .string s.a.name, .string s.b.owner, .string s.b.name, .string s.via] : Array Value)[o]? := cell_setRow_same w n o old (St.arr s) _ _ h
theorem one9 (s : St) : (#[.int .i64 s.kind, .string s.head.owner, .string s.head.name, .string s.who, .string s.a.owner, .string s.a.name, .string s.b.owner, .string s.b.name, .string s.via] : Array Value).all (·.oneCell') = true := by
  rw [Array.all_eq_true']
  intro x hx
  simp at hx
  rcases hx with rfl | rfl | rfl | rfl | rfl | rfl | rfl | rfl | rfl <;> rfl
/-- What the rest of Stmt starts from. -/
structure Mid (w wx : World) (N : Nat) (u : Ru) (s : St) : Prop where
  below : RowKit.Below w.heap.size w wx
  box : wx.heap[w.heap.size]? = some (.cells u.cells 34 (0, 0))
  out : wx.heap[w.heap.size + 1]? = some (.cells (St.arr zeroS) 26 (0, 0))
  at_ : wx.heap[N]? = some (.cells (St.arr s) 26 (0, 0))
  far : w.heap.size + 2 ≤ N
theorem Mid.keep {w wx w' : World} {N : Nat} {u : Ru} {s : St} (h : Mid w wx N u s) (hb : RowKit.Below wx.heap.size wx w') : Mid w w' N u s :=
  ⟨nx h.below hb, (hb.block _ (Array.getElem?_eq_some_iff.1 h.box).1).trans h.box, (hb.block _ (Array.getElem?_eq_some_iff.1 h.out).1).trans h.out, (hb.block _ (Array.getElem?_eq_some_iff.1 h.at_).1).trans h.at_, h.far⟩
theorem Mid.set {w wx : World} {N : Nat} {u : Ru} {s : St} (h : Mid w wx N u s) (o : Nat) (v : Value) (s2 : St) (hs : (St.arr s).setIfInBounds o v = St.arr s2) : Mid w (wx.setCell ⟨N, o, none⟩ v) N u s2 := by
  have hf := h.far
  refine ⟨h.below.setCell (by show w.heap.size ≤ N; omega) _, (Below.heap_setCell _ _ _ _ (by show w.heap.size ≠ N; omega)).trans h.box, (Below.heap_setCell _ _ _ _ (by show w.heap.size + 1 ≠ N; omega)).trans h.out, ?_, h.far⟩
  rw [heap_setCell_same _ _ _ _ _ _ h.at_, hs]
theorem Mid.cbox {w wx : World} {N : Nat} {u : Ru} {s : St} (h : Mid w wx N u s) : ∀ o, wx.cell? ⟨w.heap.size, o, none⟩ = (#[.int .i64 u.kind, .int .i64 u.head, .int .i64 u.who, .int .i64 u.a, .int .i64 u.b, .int .i64 u.via] : Array Value)[o]? := fun o => Lib.cell_of_heap h.box o
theorem Mid.cat {w wx : World} {N : Nat} {u : Ru} {s : St} (h : Mid w wx N u s) : ∀ o, wx.cell? ⟨N, o, none⟩ = (#[.int .i64 s.kind, .string s.head.owner, .string s.head.name, .string s.who, .string s.a.owner, .string s.a.name, .string s.b.owner, .string s.b.name, .string s.via] : Array Value)[o]? := fun o => Lib.cell_of_heap h.at_ o
theorem Mid.free {w wx : World} {N : Nat} {u : Ru} {s : St} (h : Mid w wx N u s) : ∀ o, wx.frozen? ⟨N, o, none⟩ = false := fun o => frozen_of_row _ _ _ _ _ h.at_
theorem mid_a {w w1 w2 : World} {u : Ru} {k : Int} {r : Rl} (HB : RowKit.Below w.heap.size w w1) (HX : w1.heap[w.heap.size]? = some (.cells u.cells 34 (0, 0))) (H4 : w1.heap[w.heap.size + 1]? = some (.cells (St.arr zeroS) 26 (0, 0)))
    (hlt : w.heap.size + 2 ≤ w1.heap.size) (hb : RowKit.Below w1.drew.heap.size w1.drew w2) :
    Mid w (w2.alloc (.cells #[.int .i64 k, .string r.owner, .string r.name, .string ⟨#[]⟩, .string ⟨#[]⟩, .string ⟨#[]⟩, .string ⟨#[]⟩, .string ⟨#[]⟩, .string ⟨#[]⟩] 26)) w2.heap.size u ⟨k, r, noText, zeroR, zeroR, noText⟩ := by
  have hb' : RowKit.Below w1.heap.size w1 w2 := ⟨hb.os, hb.tape, hb.output, hb.size, fun k hk => hb.block k hk⟩
  have hz := hb'.size
  refine ⟨(HB.trans (hb'.mono HB.size)).alloc (by omega) _, ?_, ?_, heap_alloc_new w2 _, by omega⟩
  · exact (Below.heap_alloc _ _ _ (by omega)).trans ((hb'.block _ (by omega)).trans HX)
  · exact (Below.heap_alloc _ _ _ (by omega)).trans ((hb'.block _ (by omega)).trans H4)
theorem mid_b {w w1 w2 : World} {u : Ru} {k : Int} {r : Rl} (HB : RowKit.Below w.heap.size w w1) (HX : w1.heap[w.heap.size]? = some (.cells u.cells 34 (0, 0))) (H4 : w1.heap[w.heap.size + 1]? = some (.cells (St.arr zeroS) 26 (0, 0)))
    (hlt : w.heap.size + 2 ≤ w1.heap.size) (hb : RowKit.Below (w1.alloc (.cells #[.int .i64 0, .string ⟨#[]⟩, .string ⟨#[]⟩, .string ⟨#[]⟩, .string ⟨#[]⟩, .string ⟨#[]⟩, .string ⟨#[]⟩, .string ⟨#[]⟩, .string ⟨#[]⟩] 26)).drew.heap.size (w1.alloc (.cells #[.int .i64 0, .string ⟨#[]⟩, .string ⟨#[]⟩, .string ⟨#[]⟩, .string ⟨#[]⟩, .string ⟨#[]⟩, .string ⟨#[]⟩, .string ⟨#[]⟩, .string ⟨#[]⟩] 26)).drew w2) :
    Mid w (((((((((w2.setCell ⟨w1.heap.size, 0, none⟩ (.int .i64 k)).setCell ⟨w1.heap.size, 1, none⟩ (.string r.owner)).setCell ⟨w1.heap.size, 2, none⟩ (.string r.name)).setCell ⟨w1.heap.size, 3, none⟩ (.string ⟨#[]⟩)).setCell ⟨w1.heap.size, 4, none⟩ (.string ⟨#[]⟩)).setCell ⟨w1.heap.size, 5, none⟩ (.string ⟨#[]⟩)).setCell ⟨w1.heap.size, 6, none⟩ (.string ⟨#[]⟩)).setCell ⟨w1.heap.size, 7, none⟩ (.string ⟨#[]⟩)).setCell ⟨w1.heap.size, 8, none⟩ (.string ⟨#[]⟩)) w1.heap.size u ⟨k, r, noText, zeroR, zeroR, noText⟩ := by
  have hb' : RowKit.Below (w1.alloc (.cells (St.arr zeroS) 26)).heap.size (w1.alloc (.cells (St.arr zeroS) 26)) w2 := ⟨hb.os, hb.tape, hb.output, hb.size, fun k hk => hb.block k hk⟩
  have h0 : Mid w w2 w1.heap.size u zeroS :=
    ⟨(HB.alloc HB.size _).trans (hb'.mono (by simp; omega)), (hb'.block _ (by simp; omega)).trans ((Below.heap_alloc _ _ _ (by omega)).trans HX), (hb'.block _ (by simp; omega)).trans ((Below.heap_alloc _ _ _ (by omega)).trans H4), (hb'.block _ (by simp)).trans (heap_alloc_new w1 _), by omega⟩
  exact ((((((((h0.set 0 (.int .i64 k) ⟨k, zeroR, noText, zeroR, zeroR, noText⟩ rfl).set 1 (.string r.owner) ⟨k, ⟨r.owner, noText⟩, noText, zeroR, zeroR, noText⟩ rfl).set 2 (.string r.name) ⟨k, r, noText, zeroR, zeroR, noText⟩ rfl).set 3 (.string ⟨#[]⟩) ⟨k, r, noText, zeroR, zeroR, noText⟩ rfl).set 4 (.string ⟨#[]⟩) ⟨k, r, noText, zeroR, zeroR, noText⟩ rfl).set 5 (.string ⟨#[]⟩) ⟨k, r, noText, zeroR, zeroR, noText⟩ rfl).set 6 (.string ⟨#[]⟩) ⟨k, r, noText, zeroR, zeroR, noText⟩ rfl).set 7 (.string ⟨#[]⟩) ⟨k, r, noText, zeroR, zeroR, noText⟩ rfl).set 8 (.string ⟨#[]⟩) ⟨k, r, noText, zeroR, zeroR, noText⟩ rfl
def StmtPost (s : St) (ok : Bool) (w : World) (e : Ending) (w' : World) : Prop := e = .returned (.tuple #[.agg (St.arr s), .bool ok]) ∧ RowKit.Below w.heap.size w w'
theorem still_tail {P : Program} {id : Nat} {Q : Exit → Act → World → Prop} {a : Act} {w : World} {l : List Oper} (n : Nat) (hm : P.follows .mixedOrders = true) (hB : Region.lexTailB .any l.toArray n = true)
    (h : wpStill P l.toArray w.drew (fun a' => wpList P l.toArray Q (l.drop n) a' w.drew) (l.take n) a) : (Code.region id l.toArray true).wp P Q a w := wp_region_still_tail n hm hB h
section
variable {t a b : Nat} {A1 : Option Addr} {c1 : Nat} {A2 : Option Addr} {c2 : Nat} {P L : List Str}
set_option maxHeartbeats 4000000 in
set_option maxRecDepth 100000 in
theorem stmt_ (w : World) (hT : TblK w t a b A1 c1 A2 c2 P L) (u : Ru) (hP : P.length ≤ 1000) (hL : L.length ≤ 1000) :
    Calls Try.prog 30 #[.pointer (some ⟨t, 0, none⟩), u.val] w (StmtPost (stA P L u) (rightU P.length L.length u) w) := by
  have HR := Lib.hid (fun w' => right_ P.length L.length u w' hP hL)
  have HPr := Lib.hid (fun w' (hb : RowKit.Below w.heap.size w w') => prins (hT.keep hb))
  have HLi := Lib.hid (fun w' (hb : RowKit.Below w.heap.size w w') => links (hT.keep hb))
  have HLa := Lib.hid (fun w' (hb : RowKit.Below w.heap.size w w') => Tab1.len w' a A1 P.length c1 (hT.keep hb).a0)
  have HLb := Lib.hid (fun w' (hb : RowKit.Below w.heap.size w w') => Tab1.len w' b A2 L.length c2 (hT.keep hb).b0)
  have HAt := Lib.hid (fun w' (hb : RowKit.Below w.heap.size w w') i => roleAt (hT.keep hb) i)
  have HPa := Lib.hid (fun w' (hb : RowKit.Below w.heap.size w w') (x : Nat) (hx : x < P.length) => Tab7.at_in a A1 P c1 x w' (hT.keep hb).a0 (by omega) (hT.keep hb).ra hx)
  have HLk := Lib.hid (fun w' (hb : RowKit.Below w.heap.size w w') (x : Nat) (hx : x < L.length) => Tab7.at_in b A2 L c2 x w' (hT.keep hb).b0 (by omega) (hT.keep hb).rb hx)
  have HNo := Lib.hid (fun w' => Syn6.normal (stU P L u) w')
  obtain ⟨k, h, x, y, z, v⟩ := u
  unfold Ru.val at *
  simp only at *
  have hbx : ∀ w', RowKit.Below ((w.alloc (.cells #[.int .i64 k, .int .i64 h, .int .i64 x, .int .i64 y, .int .i64 z, .int .i64 v] 34)).alloc (.cells (St.arr zeroS) 26)).heap.size ((w.alloc (.cells #[.int .i64 k, .int .i64 h, .int .i64 x, .int .i64 y, .int .i64 z, .int .i64 v] 34)).alloc (.cells (St.arr zeroS) 26)) w' →
      RowKit.Below w.heap.size w w' ∧ w'.heap[w.heap.size]? = some (.cells #[.int .i64 k, .int .i64 h, .int .i64 x, .int .i64 y, .int .i64 z, .int .i64 v] 34 (0, 0)) ∧ w'.heap[w.heap.size + 1]? = some (.cells (St.arr zeroS) 26 (0, 0)) := fun w' hb =>
    ⟨(((Below.refl w.heap.size w).alloc (Nat.le_refl _) _).alloc (by simp) _).trans (hb.mono (by simp <;> omega)), (hb.block _ (by simp <;> omega)).trans (heap_alloc2_old w _ _), (hb.block _ (by simp)).trans (heap_alloc2_new w _ _)⟩
  have HBX := Lib.hid hbx
  have hst : (St.arr zeroS) = #[.int .i64 0, .string ⟨#[]⟩, .string ⟨#[]⟩, .string ⟨#[]⟩, .string ⟨#[]⟩, .string ⟨#[]⟩, .string ⟨#[]⟩, .string ⟨#[]⟩, .string ⟨#[]⟩] := rfl
  rw [hst] at HBX
  clear hbx hT
  go_enter Try.func30, Try.ntmps30
  go_upto_region 1 with fail
  generalize hw2 : (w.alloc (.cells #[.int .i64 k, .int .i64 h, .int .i64 x, .int .i64 y, .int .i64 z, .int .i64 v] 34)).alloc (.cells #[.int .i64 0, .string ⟨#[]⟩, .string ⟨#[]⟩, .string ⟨#[]⟩, .string ⟨#[]⟩, .string ⟨#[]⟩, .string ⟨#[]⟩, .string ⟨#[]⟩, .string ⟨#[]⟩] 26) = w2 at HBX ⊢
  clear hw2
  have HS1 : Hid (∀ w', RowKit.Below w2.heap.size w2 w' → RowKit.Below w2.heap.size w2 w' ∧ (∀ o, w'.cell? ⟨w.heap.size, o, none⟩ = (#[.int .i64 k, .int .i64 h, .int .i64 x, .int .i64 y, .int .i64 z, .int .i64 v] : Array Value)[o]?)) := Lib.hid (fun w' hb => ⟨hb, fun o => Lib.cell_of_heap (HBX.out w' hb).2.1 o⟩)
  have HBw := Lib.hid (fun w' hb => (HBX.out w' hb).1)
  generalize hrb : rightU P.length L.length _ = rb at *
  go_region_held3 (fun w' => RowKit.Below w2.heap.size w2 w' ∧ (∀ o, w'.cell? ⟨w.heap.size, o, none⟩ = (#[.int .i64 k, .int .i64 h, .int .i64 x, .int .i64 y, .int .i64 z, .int .i64 v] : Array Value)[o]?))
    (first | with_reducible assumption | exact HS1.out _ ((Below.refl _ _).drew) | exact HS1.out _ (nx (by apply And.left; with_reducible assumption) (by with_reducible assumption)))
    (first | ((with_reducible refine (HPr.out _ (HBw.out _ (by apply And.left; with_reducible assumption))).mono ?_); rintro e w' ⟨rfl, rfl⟩)
           | ((with_reducible refine (HLi.out _ (HBw.out _ (by apply And.left; with_reducible assumption))).mono ?_); rintro e w' ⟨rfl, rfl⟩)
           | ((with_reducible refine (HLa.out _ (HBw.out _ (by apply And.left; with_reducible assumption))).mono ?_); rintro e w' ⟨rfl, rfl⟩)
           | ((with_reducible refine (HLb.out _ (HBw.out _ (by apply And.left; with_reducible assumption))).mono ?_); rintro e w' ⟨rfl, rfl⟩)
           | ((with_reducible refine (HR.out _).mono ?_); rintro e w' ⟨rfl, hgb⟩))
  rename_i hHeld
  obtain ⟨k1, k2, k3⟩ := HBX.out _ hHeld.1
  have H1 := Lib.hid k1
  have H2 := Lib.hid k2
  have H3 := Lib.hid k3
  clear k1 k2 k3 hHeld HS1 HBX HBw HR HLa HLb
  cases rb
  · have hs : stA P L ⟨k, h, x, y, z, v⟩ = zeroS := by unfold stA; rw [hrb]; rfl
    have HSz := Lib.hid hs
    clear hs hrb
    go_wp2_with (refine wpList_store_row rfl 26 _ _ rfl (w.heap.size + 1) #[.int .i64 0, .string ⟨#[]⟩, .string ⟨#[]⟩, .string ⟨#[]⟩, .string ⟨#[]⟩, .string ⟨#[]⟩, .string ⟨#[]⟩, .string ⟨#[]⟩, .string ⟨#[]⟩] rfl rfl 26 _ H3.out infoSt rfl (one9 zeroS) ?_)
    have hl : ∀ o, (w'.setRow (w.heap.size + 1) #[.int .i64 0, .string ⟨#[]⟩, .string ⟨#[]⟩, .string ⟨#[]⟩, .string ⟨#[]⟩, .string ⟨#[]⟩, .string ⟨#[]⟩, .string ⟨#[]⟩, .string ⟨#[]⟩]).cell? ⟨w.heap.size + 1, o, none⟩ = (#[.int .i64 0, .string ⟨#[]⟩, .string ⟨#[]⟩, .string ⟨#[]⟩, .string ⟨#[]⟩, .string ⟨#[]⟩, .string ⟨#[]⟩, .string ⟨#[]⟩, .string ⟨#[]⟩] : Array Value)[o]? := cell_st zeroS H3.out
    have hz := below_setRow H1.out (show w.heap.size ≤ w.heap.size + 1 by omega) #[.int .i64 0, .string ⟨#[]⟩, .string ⟨#[]⟩, .string ⟨#[]⟩, .string ⟨#[]⟩, .string ⟨#[]⟩, .string ⟨#[]⟩, .string ⟨#[]⟩, .string ⟨#[]⟩]
    generalize World.setRow _ (w.heap.size + 1) #[.int .i64 0, .string ⟨#[]⟩, .string ⟨#[]⟩, .string ⟨#[]⟩, .string ⟨#[]⟩, .string ⟨#[]⟩, .string ⟨#[]⟩, .string ⟨#[]⟩, .string ⟨#[]⟩] = wz at hl hz ⊢
    refine bodyPost_ret (v := .tuple #[.agg #[.int .i64 0, .string ⟨#[]⟩, .string ⟨#[]⟩, .string ⟨#[]⟩, .string ⟨#[]⟩, .string ⟨#[]⟩, .string ⟨#[]⟩, .string ⟨#[]⟩, .string ⟨#[]⟩], .bool false]) (by simp [results, Try.results30, go_sem, hl]) rfl ⟨by rw [HSz.out]; rfl, hz⟩
  · have hs : stA P L ⟨k, h, x, y, z, v⟩ = (stU P L ⟨k, h, x, y, z, v⟩).normal := by unfold stA; rw [hrb]; rfl
    have HSz := Lib.hid hs
    unfold rightU at hrb
    simp only [Bool.and_eq_true] at hrb
    obtain ⟨q1, _, _, q4, q5⟩ := hrb
    have hkk : k = 1 ∨ k = 2 ∨ k = 3 ∨ k = 4 := by
      unfold bareK at q1
      simp at q1
      omega
    have hxx : 0 ≤ x ∧ x < P.length := by simpa [allB, inB] using q4
    have hvv : 0 ≤ v ∧ v < L.length := by simpa [allB, inB] using q5
    have HK := Lib.hid hkk
    clear hs q1 q4 q5 hkk
    have hu : stU P L ⟨k, h, x, y, z, v⟩ = ⟨k, rolI P L h, if k = 1 then txt (P.getD x.toNat []) else noText, if k = 1 then zeroR else rolI P L y, if k = 4 then rolI P L z else zeroR, if k = 3 then txt (L.getD v.toNat []) else noText⟩ := rfl
    rw [hu] at HNo HSz
    have HPx : Hid (∀ w', RowKit.Below w.heap.size w w' → Calls Try.prog 42 #[.pointer (some ⟨a, 0, none⟩), .int .i64 x] w' fun e w'' => e = .returned (.string (txt (P.getD x.toNat []))) ∧ w' = w'') := Lib.hid (fun w' hb => by
      have := HPa.out w' hb x.toNat (by omega)
      rw [Int.toNat_of_nonneg hxx.1] at this
      rw [List.getD_eq_getElem?_getD, List.getElem?_eq_getElem (by omega)]
      exact this)
    have HLx : Hid (∀ w', RowKit.Below w.heap.size w w' → Calls Try.prog 42 #[.pointer (some ⟨b, 0, none⟩), .int .i64 v] w' fun e w'' => e = .returned (.string (txt (L.getD v.toNat []))) ∧ w' = w'') := Lib.hid (fun w' hb => by
      have := HLk.out w' hb v.toNat (by omega)
      rw [Int.toNat_of_nonneg hvv.1] at this
      rw [List.getD_eq_getElem?_getD, List.getElem?_eq_getElem (by omega)]
      exact this)
    have HRh := Lib.hid (fun w' hb => HAt.out w' hb h)
    have HRy := Lib.hid (fun w' hb => HAt.out w' hb y)
    have HRz := Lib.hid (fun w' hb => HAt.out w' hb z)
    clear hu hxx hvv HPa HLk HAt
    generalize txt (P.getD x.toNat []) = tx at *
    generalize txt (L.getD v.toNat []) = tv at *
    generalize rolI P L h = rh at *
    generalize rolI P L y = ry at *
    generalize rolI P L z = rz at *
    generalize stA P L _ = sA at *
    obtain ⟨ho, hn⟩ := rh
    obtain ⟨yo, yn⟩ := ry
    obtain ⟨zo, zn⟩ := rz
    unfold Rl.val at HRh HRy HRz
    simp only at HRh HRy HRz
    have hlt1 : w.heap.size + 2 ≤ w'.heap.size := by have := (Array.getElem?_eq_some_iff.1 H3.out).1; omega
    have hc := fun o => Lib.cell_of_heap H2.out o
    go_upto_region 3 with fail
    go_cut [6] from 17 to 62 (fun p wx => ∃ N, p = .pointer (some ⟨N, 0, none⟩) ∧ Hid (Mid w wx N ⟨k, h, x, y, z, v⟩ ⟨k, ⟨ho, hn⟩, noText, zeroR, zeroR, noText⟩))
    case first =>
      have hlt2 : w.heap.size < w'.heap.size := by omega
      have H2u : Hid (w'.heap[w.heap.size]? = some (.cells (⟨k, h, x, y, z, v⟩ : Ru).cells 34 (0, 0))) := Lib.hid H2.out
      have H3u : Hid (w'.heap[w.heap.size + 1]? = some (.cells (St.arr zeroS) 26 (0, 0))) := Lib.hid H3.out
      have B1 := Lib.hid H1.out.drew
      have B2 := Lib.hid (fun o => (H1.out.alloc H1.out.size o).drew)
      have HZ : Hid (∀ w2 : World, RowKit.Below (w'.alloc (.cells #[.int .i64 0, .string ⟨#[]⟩, .string ⟨#[]⟩, .string ⟨#[]⟩, .string ⟨#[]⟩, .string ⟨#[]⟩, .string ⟨#[]⟩, .string ⟨#[]⟩, .string ⟨#[]⟩] 26)).drew.heap.size (w'.alloc (.cells #[.int .i64 0, .string ⟨#[]⟩, .string ⟨#[]⟩, .string ⟨#[]⟩, .string ⟨#[]⟩, .string ⟨#[]⟩, .string ⟨#[]⟩, .string ⟨#[]⟩, .string ⟨#[]⟩] 26)).drew w2 → (∀ o, w2.cell? ⟨w'.heap.size, o, none⟩ = (#[.int .i64 0, .string ⟨#[]⟩, .string ⟨#[]⟩, .string ⟨#[]⟩, .string ⟨#[]⟩, .string ⟨#[]⟩, .string ⟨#[]⟩, .string ⟨#[]⟩, .string ⟨#[]⟩] : Array Value)[o]?) ∧ (∀ o, w2.frozen? ⟨w'.heap.size, o, none⟩ = false)) := Lib.hid (fun w2 hb => by
        have e : w2.heap[w'.heap.size]? = some (.cells #[.int .i64 0, .string ⟨#[]⟩, .string ⟨#[]⟩, .string ⟨#[]⟩, .string ⟨#[]⟩, .string ⟨#[]⟩, .string ⟨#[]⟩, .string ⟨#[]⟩, .string ⟨#[]⟩] 26 (0, 0)) := (hb.block w'.heap.size (by show w'.heap.size < (w'.alloc _).heap.size; simp)).trans (heap_alloc_new w' _)
        exact ⟨fun o => Lib.cell_of_heap e o, fun o => frozen_of_row _ _ _ _ _ e⟩)
      have hlt5 : Hid (w.heap.size < (w'.alloc (.cells #[.int .i64 0, .string ⟨#[]⟩, .string ⟨#[]⟩, .string ⟨#[]⟩, .string ⟨#[]⟩, .string ⟨#[]⟩, .string ⟨#[]⟩, .string ⟨#[]⟩, .string ⟨#[]⟩] 26)).drew.heap.size) := Lib.hid (by show w.heap.size < (w'.alloc _).heap.size; simp; omega)
      have C1 : Hid (∀ w2 : World, RowKit.Below w'.drew.heap.size w'.drew w2 → ∀ o, w2.cell? ⟨w.heap.size, o, none⟩ = (#[.int .i64 k, .int .i64 h, .int .i64 x, .int .i64 y, .int .i64 z, .int .i64 v] : Array Value)[o]?) := Lib.hid (fun w2 hb o => (hb.cell (p := ⟨w.heap.size, o, none⟩) hlt2).trans (Lib.cell_of_heap H2.out o))
      have C2 : Hid (∀ w2 : World, RowKit.Below (w'.alloc (.cells #[.int .i64 0, .string ⟨#[]⟩, .string ⟨#[]⟩, .string ⟨#[]⟩, .string ⟨#[]⟩, .string ⟨#[]⟩, .string ⟨#[]⟩, .string ⟨#[]⟩, .string ⟨#[]⟩] 26)).drew.heap.size (w'.alloc (.cells #[.int .i64 0, .string ⟨#[]⟩, .string ⟨#[]⟩, .string ⟨#[]⟩, .string ⟨#[]⟩, .string ⟨#[]⟩, .string ⟨#[]⟩, .string ⟨#[]⟩, .string ⟨#[]⟩] 26)).drew w2 → ∀ o, w2.cell? ⟨w.heap.size, o, none⟩ = (#[.int .i64 k, .int .i64 h, .int .i64 x, .int .i64 y, .int .i64 z, .int .i64 v] : Array Value)[o]?) := Lib.hid (fun w2 hb o => (hb.cell (p := ⟨w.heap.size, o, none⟩) (by show w.heap.size < (w'.alloc _).heap.size; simp; omega)).trans (Lib.cell_of_heap ((Below.heap_alloc w' _ _ hlt2).trans H2.out) o))
      go_region_with (first | ((with_reducible refine (HRh.out _ B1.out).mono ?_); rintro e w2 ⟨rfl, hb2⟩; have hc2 := C1.out w2 hb2; have hlt4 := Nat.lt_of_lt_of_le hlt2 hb2.size) | ((with_reducible refine (HRh.out _ (B2.out _)).mono ?_); rintro e w2 ⟨rfl, hb2⟩; obtain ⟨z1, z2⟩ := HZ.out w2 hb2; have hc2 := C2.out w2 hb2; have hlt4 := Nat.lt_of_lt_of_le hlt5.out hb2.size))
      all_goals (go_wp2_with fail; go_meet)
      all_goals (case rel => refine ⟨_, rfl, Lib.hid ?_⟩; first | with_reducible exact mid_a (u := ⟨k, h, x, y, z, v⟩) (r := ⟨ho, hn⟩) H1.out H2u.out H3u.out hlt1 hb2 | with_reducible exact mid_b (u := ⟨k, h, x, y, z, v⟩) (r := ⟨ho, hn⟩) H1.out H2u.out H3u.out hlt1 hb2)
    case rest =>
      clear H1 H2 H3 hc hlt1
      obtain ⟨N, rfl, HM⟩ := hcut
      rcases HK.out with rfl | rfl | rfl | rfl
      · clear HLi HLx HRy HRz HRh
        have hc : ∀ o, wc.cell? ⟨w.heap.size, o, none⟩ = (#[.int .i64 1, .int .i64 h, .int .i64 x, .int .i64 y, .int .i64 z, .int .i64 v] : Array Value)[o]? := HM.out.cbox
        have hr : ∀ o, wc.cell? ⟨N, o, none⟩ = (#[.int .i64 1, .string ho, .string hn, .string ⟨#[]⟩, .string ⟨#[]⟩, .string ⟨#[]⟩, .string ⟨#[]⟩, .string ⟨#[]⟩, .string ⟨#[]⟩] : Array Value)[o]? := HM.out.cat
        have hf := HM.out.free
        go_upto_region 9 with fail
        refine still_tail 6 (by kernel_rfl) (by kernel_rfl) ?_
        simp only [List.take_succ_cons, List.take_zero, List.drop_succ_cons, List.drop_zero]
        repeat still_step
        still_call ((HPr.out _ HM.out.below.drew).mono fun e w' h => ⟨h.1, h.2.symm⟩)
        repeat still_step
        still_call ((HPx.out _ HM.out.below.drew).mono fun e w' h => ⟨h.1, h.2.symm⟩)
        repeat still_step
        refine wpStill_nil ?_
        have HM2 : Hid (Mid w (wc.setCell ⟨N, 3, none⟩ (.string tx)).drew N ⟨1, h, x, y, z, v⟩ ⟨1, ⟨ho, hn⟩, tx, zeroR, zeroR, noText⟩) := Lib.hid ⟨(HM.out.set 3 (.string tx) ⟨1, ⟨ho, hn⟩, tx, zeroR, zeroR, noText⟩ rfl).below.drew, (HM.out.set 3 (.string tx) ⟨1, ⟨ho, hn⟩, tx, zeroR, zeroR, noText⟩ rfl).box, (HM.out.set 3 (.string tx) ⟨1, ⟨ho, hn⟩, tx, zeroR, zeroR, noText⟩ rfl).out, (HM.out.set 3 (.string tx) ⟨1, ⟨ho, hn⟩, tx, zeroR, zeroR, noText⟩ rfl).at_, HM.out.far⟩
        have HN1 : Hid (∀ w', Calls Try.prog 50 #[.agg (St.arr (⟨1, ⟨ho, hn⟩, tx, zeroR, zeroR, noText⟩ : St))] w' fun e w'' => e = .returned ((⟨1, ⟨ho, hn⟩, tx, zeroR, zeroR, noText⟩ : St).normal).val ∧ Grew w' w'') := Lib.hid HNo.out
        have HS1 : Hid (sA = (⟨1, ⟨ho, hn⟩, tx, zeroR, zeroR, noText⟩ : St).normal) := Lib.hid HSz.out
        generalize (⟨1, ⟨ho, hn⟩, tx, zeroR, zeroR, noText⟩ : St).normal = sN at HN1 HS1
        go_wp2_with (refine wpList_load_row rfl 26 _ rfl N rfl 26 (St.arr (⟨1, ⟨ho, hn⟩, tx, zeroR, zeroR, noText⟩ : St)) (0, 0) _ HM2.out.at_ Try.underlying26 rfl infoSt ?_)
        refine (HN1.out _).mono ?_
        rintro e w9 ⟨rfl, hg⟩
        have HO9 := Lib.hid ((hg.below.block _ (Array.getElem?_eq_some_iff.1 HM2.out.out).1).trans HM2.out.out)
        have HB9 := Lib.hid (nx HM2.out.below hg.below)
        clear hg
        go_wp2_with (refine wpList_store_row rfl 26 _ _ rfl (w.heap.size + 1) #[.int .i64 sN.kind, .string sN.head.owner, .string sN.head.name, .string sN.who, .string sN.a.owner, .string sN.a.name, .string sN.b.owner, .string sN.b.name, .string sN.via] rfl rfl 26 _ HO9.out infoSt rfl (one9 sN) ?_)
        have hl := cell_st sN HO9.out
        have hz := below_setRow HB9.out (show w.heap.size ≤ w.heap.size + 1 by omega) #[.int .i64 sN.kind, .string sN.head.owner, .string sN.head.name, .string sN.who, .string sN.a.owner, .string sN.a.name, .string sN.b.owner, .string sN.b.name, .string sN.via]
        generalize World.setRow _ (w.heap.size + 1) #[.int .i64 sN.kind, .string sN.head.owner, .string sN.head.name, .string sN.who, .string sN.a.owner, .string sN.a.name, .string sN.b.owner, .string sN.b.name, .string sN.via] = wz at hl hz ⊢
        refine bodyPost_ret (v := .tuple #[.agg #[.int .i64 sN.kind, .string sN.head.owner, .string sN.head.name, .string sN.who, .string sN.a.owner, .string sN.a.name, .string sN.b.owner, .string sN.b.name, .string sN.via], .bool true]) (by simp [results, Try.results30, go_sem, hl]) rfl ⟨by rw [HS1.out]; rfl, hz⟩
      · clear HLi HLx HPr HPx HRz HRh
        have hc : ∀ o, wc.cell? ⟨w.heap.size, o, none⟩ = (#[.int .i64 2, .int .i64 h, .int .i64 x, .int .i64 y, .int .i64 z, .int .i64 v] : Array Value)[o]? := HM.out.cbox
        have hr : ∀ o, wc.cell? ⟨N, o, none⟩ = (#[.int .i64 2, .string ho, .string hn, .string ⟨#[]⟩, .string ⟨#[]⟩, .string ⟨#[]⟩, .string ⟨#[]⟩, .string ⟨#[]⟩, .string ⟨#[]⟩] : Array Value)[o]? := HM.out.cat
        have hf := HM.out.free
        go_wp2_with fail
        refine (HRy.out _ HM.out.below).mono ?_
        rintro e w5 ⟨rfl, hb5⟩
        have HM5 := Lib.hid (HM.out.keep hb5)
        clear hb5 hc hr hf
        have hc : ∀ o, w5.cell? ⟨w.heap.size, o, none⟩ = (#[.int .i64 2, .int .i64 h, .int .i64 x, .int .i64 y, .int .i64 z, .int .i64 v] : Array Value)[o]? := HM5.out.cbox
        have hr : ∀ o, w5.cell? ⟨N, o, none⟩ = (#[.int .i64 2, .string ho, .string hn, .string ⟨#[]⟩, .string ⟨#[]⟩, .string ⟨#[]⟩, .string ⟨#[]⟩, .string ⟨#[]⟩, .string ⟨#[]⟩] : Array Value)[o]? := HM5.out.cat
        have hf := HM5.out.free
        have HM6 : Hid (Mid w ((w5.setCell ⟨N, 4, none⟩ (.string yo)).setCell ⟨N, 5, none⟩ (.string yn)) N ⟨2, h, x, y, z, v⟩ ⟨2, ⟨ho, hn⟩, noText, ⟨yo, yn⟩, zeroR, noText⟩) := Lib.hid ((HM5.out.set 4 (.string yo) ⟨2, ⟨ho, hn⟩, noText, ⟨yo, noText⟩, zeroR, noText⟩ rfl).set 5 (.string yn) ⟨2, ⟨ho, hn⟩, noText, ⟨yo, yn⟩, zeroR, noText⟩ rfl)
        have HN1 : Hid (∀ w', Calls Try.prog 50 #[.agg (St.arr (⟨2, ⟨ho, hn⟩, noText, ⟨yo, yn⟩, zeroR, noText⟩ : St))] w' fun e w'' => e = .returned ((⟨2, ⟨ho, hn⟩, noText, ⟨yo, yn⟩, zeroR, noText⟩ : St).normal).val ∧ Grew w' w'') := Lib.hid HNo.out
        have HS1 : Hid (sA = (⟨2, ⟨ho, hn⟩, noText, ⟨yo, yn⟩, zeroR, noText⟩ : St).normal) := Lib.hid HSz.out
        generalize (⟨2, ⟨ho, hn⟩, noText, ⟨yo, yn⟩, zeroR, noText⟩ : St).normal = sN at HN1 HS1
        go_wp2_with (refine wpList_load_row rfl 26 _ rfl N rfl 26 (St.arr (⟨2, ⟨ho, hn⟩, noText, ⟨yo, yn⟩, zeroR, noText⟩ : St)) (0, 0) _ HM6.out.at_ Try.underlying26 rfl infoSt ?_)
        refine (HN1.out _).mono ?_
        rintro e w9 ⟨rfl, hg⟩
        have HO9 := Lib.hid ((hg.below.block _ (Array.getElem?_eq_some_iff.1 HM6.out.out).1).trans HM6.out.out)
        have HB9 := Lib.hid (nx HM6.out.below hg.below)
        clear hg
        go_wp2_with (refine wpList_store_row rfl 26 _ _ rfl (w.heap.size + 1) #[.int .i64 sN.kind, .string sN.head.owner, .string sN.head.name, .string sN.who, .string sN.a.owner, .string sN.a.name, .string sN.b.owner, .string sN.b.name, .string sN.via] rfl rfl 26 _ HO9.out infoSt rfl (one9 sN) ?_)
        have hl := cell_st sN HO9.out
        have hz := below_setRow HB9.out (show w.heap.size ≤ w.heap.size + 1 by omega) #[.int .i64 sN.kind, .string sN.head.owner, .string sN.head.name, .string sN.who, .string sN.a.owner, .string sN.a.name, .string sN.b.owner, .string sN.b.name, .string sN.via]
        generalize World.setRow _ (w.heap.size + 1) #[.int .i64 sN.kind, .string sN.head.owner, .string sN.head.name, .string sN.who, .string sN.a.owner, .string sN.a.name, .string sN.b.owner, .string sN.b.name, .string sN.via] = wz at hl hz ⊢
        refine bodyPost_ret (v := .tuple #[.agg #[.int .i64 sN.kind, .string sN.head.owner, .string sN.head.name, .string sN.who, .string sN.a.owner, .string sN.a.name, .string sN.b.owner, .string sN.b.name, .string sN.via], .bool true]) (by simp [results, Try.results30, go_sem, hl]) rfl ⟨by rw [HS1.out]; rfl, hz⟩
      · clear HPr HPx HRz HRh
        have hc : ∀ o, wc.cell? ⟨w.heap.size, o, none⟩ = (#[.int .i64 3, .int .i64 h, .int .i64 x, .int .i64 y, .int .i64 z, .int .i64 v] : Array Value)[o]? := HM.out.cbox
        have hr : ∀ o, wc.cell? ⟨N, o, none⟩ = (#[.int .i64 3, .string ho, .string hn, .string ⟨#[]⟩, .string ⟨#[]⟩, .string ⟨#[]⟩, .string ⟨#[]⟩, .string ⟨#[]⟩, .string ⟨#[]⟩] : Array Value)[o]? := HM.out.cat
        have hf := HM.out.free
        go_upto_region 11 with fail
        refine still_tail 6 (by kernel_rfl) (by kernel_rfl) ?_
        simp only [List.take_succ_cons, List.take_zero, List.drop_succ_cons, List.drop_zero]
        repeat still_step
        still_call ((HLi.out _ HM.out.below.drew).mono fun e w' h => ⟨h.1, h.2.symm⟩)
        repeat still_step
        still_call ((HLx.out _ HM.out.below.drew).mono fun e w' h => ⟨h.1, h.2.symm⟩)
        repeat still_step
        refine wpStill_nil ?_
        have HM2 : Hid (Mid w (wc.setCell ⟨N, 8, none⟩ (.string tv)).drew N ⟨3, h, x, y, z, v⟩ ⟨3, ⟨ho, hn⟩, noText, zeroR, zeroR, tv⟩) := Lib.hid ⟨(HM.out.set 8 (.string tv) ⟨3, ⟨ho, hn⟩, noText, zeroR, zeroR, tv⟩ rfl).below.drew, (HM.out.set 8 (.string tv) ⟨3, ⟨ho, hn⟩, noText, zeroR, zeroR, tv⟩ rfl).box, (HM.out.set 8 (.string tv) ⟨3, ⟨ho, hn⟩, noText, zeroR, zeroR, tv⟩ rfl).out, (HM.out.set 8 (.string tv) ⟨3, ⟨ho, hn⟩, noText, zeroR, zeroR, tv⟩ rfl).at_, HM.out.far⟩
        go_upto_region 12 with fail
        generalize (wc.setCell ⟨N, 8, none⟩ (.string tv)).drew = wd at HM2 ⊢
        clear hc hr hf
        have hc : ∀ o, wd.cell? ⟨w.heap.size, o, none⟩ = (#[.int .i64 3, .int .i64 h, .int .i64 x, .int .i64 y, .int .i64 z, .int .i64 v] : Array Value)[o]? := HM2.out.cbox
        have hr : ∀ o, wd.cell? ⟨N, o, none⟩ = (#[.int .i64 3, .string ho, .string hn, .string ⟨#[]⟩, .string ⟨#[]⟩, .string ⟨#[]⟩, .string ⟨#[]⟩, .string ⟨#[]⟩, .string tv] : Array Value)[o]? := HM2.out.cat
        have hf := HM2.out.free
        go_wp2_with fail
        refine (HRy.out _ HM2.out.below).mono ?_
        rintro e w5 ⟨rfl, hb5⟩
        have HM5 := Lib.hid (HM2.out.keep hb5)
        clear hb5 hc hr hf
        have hc : ∀ o, w5.cell? ⟨w.heap.size, o, none⟩ = (#[.int .i64 3, .int .i64 h, .int .i64 x, .int .i64 y, .int .i64 z, .int .i64 v] : Array Value)[o]? := HM5.out.cbox
        have hr : ∀ o, w5.cell? ⟨N, o, none⟩ = (#[.int .i64 3, .string ho, .string hn, .string ⟨#[]⟩, .string ⟨#[]⟩, .string ⟨#[]⟩, .string ⟨#[]⟩, .string ⟨#[]⟩, .string tv] : Array Value)[o]? := HM5.out.cat
        have hf := HM5.out.free
        have HM6 : Hid (Mid w ((w5.setCell ⟨N, 4, none⟩ (.string yo)).setCell ⟨N, 5, none⟩ (.string yn)) N ⟨3, h, x, y, z, v⟩ ⟨3, ⟨ho, hn⟩, noText, ⟨yo, yn⟩, zeroR, tv⟩) := Lib.hid ((HM5.out.set 4 (.string yo) ⟨3, ⟨ho, hn⟩, noText, ⟨yo, noText⟩, zeroR, tv⟩ rfl).set 5 (.string yn) ⟨3, ⟨ho, hn⟩, noText, ⟨yo, yn⟩, zeroR, tv⟩ rfl)
        have HN1 : Hid (∀ w', Calls Try.prog 50 #[.agg (St.arr (⟨3, ⟨ho, hn⟩, noText, ⟨yo, yn⟩, zeroR, tv⟩ : St))] w' fun e w'' => e = .returned ((⟨3, ⟨ho, hn⟩, noText, ⟨yo, yn⟩, zeroR, tv⟩ : St).normal).val ∧ Grew w' w'') := Lib.hid HNo.out
        have HS1 : Hid (sA = (⟨3, ⟨ho, hn⟩, noText, ⟨yo, yn⟩, zeroR, tv⟩ : St).normal) := Lib.hid HSz.out
        generalize (⟨3, ⟨ho, hn⟩, noText, ⟨yo, yn⟩, zeroR, tv⟩ : St).normal = sN at HN1 HS1
        go_wp2_with (refine wpList_load_row rfl 26 _ rfl N rfl 26 (St.arr (⟨3, ⟨ho, hn⟩, noText, ⟨yo, yn⟩, zeroR, tv⟩ : St)) (0, 0) _ HM6.out.at_ Try.underlying26 rfl infoSt ?_)
        refine (HN1.out _).mono ?_
        rintro e w9 ⟨rfl, hg⟩
        have HO9 := Lib.hid ((hg.below.block _ (Array.getElem?_eq_some_iff.1 HM6.out.out).1).trans HM6.out.out)
        have HB9 := Lib.hid (nx HM6.out.below hg.below)
        clear hg
        go_wp2_with (refine wpList_store_row rfl 26 _ _ rfl (w.heap.size + 1) #[.int .i64 sN.kind, .string sN.head.owner, .string sN.head.name, .string sN.who, .string sN.a.owner, .string sN.a.name, .string sN.b.owner, .string sN.b.name, .string sN.via] rfl rfl 26 _ HO9.out infoSt rfl (one9 sN) ?_)
        have hl := cell_st sN HO9.out
        have hz := below_setRow HB9.out (show w.heap.size ≤ w.heap.size + 1 by omega) #[.int .i64 sN.kind, .string sN.head.owner, .string sN.head.name, .string sN.who, .string sN.a.owner, .string sN.a.name, .string sN.b.owner, .string sN.b.name, .string sN.via]
        generalize World.setRow _ (w.heap.size + 1) #[.int .i64 sN.kind, .string sN.head.owner, .string sN.head.name, .string sN.who, .string sN.a.owner, .string sN.a.name, .string sN.b.owner, .string sN.b.name, .string sN.via] = wz at hl hz ⊢
        refine bodyPost_ret (v := .tuple #[.agg #[.int .i64 sN.kind, .string sN.head.owner, .string sN.head.name, .string sN.who, .string sN.a.owner, .string sN.a.name, .string sN.b.owner, .string sN.b.name, .string sN.via], .bool true]) (by simp [results, Try.results30, go_sem, hl]) rfl ⟨by rw [HS1.out]; rfl, hz⟩
      · clear HLi HLx HPr HPx HRh
        have hc : ∀ o, wc.cell? ⟨w.heap.size, o, none⟩ = (#[.int .i64 4, .int .i64 h, .int .i64 x, .int .i64 y, .int .i64 z, .int .i64 v] : Array Value)[o]? := HM.out.cbox
        have hr : ∀ o, wc.cell? ⟨N, o, none⟩ = (#[.int .i64 4, .string ho, .string hn, .string ⟨#[]⟩, .string ⟨#[]⟩, .string ⟨#[]⟩, .string ⟨#[]⟩, .string ⟨#[]⟩, .string ⟨#[]⟩] : Array Value)[o]? := HM.out.cat
        have hf := HM.out.free
        have hKS : ∀ (w' : World) (o' : Nat) (v' : Value), (∀ o, w'.cell? ⟨w.heap.size, o, none⟩ = (#[.int .i64 4, .int .i64 h, .int .i64 x, .int .i64 y, .int .i64 z, .int .i64 v] : Array Value)[o]?) → ∀ o, (w'.setCell ⟨N, o', none⟩ v').cell? ⟨w.heap.size, o, none⟩ = (#[.int .i64 4, .int .i64 h, .int .i64 x, .int .i64 y, .int .i64 z, .int .i64 v] : Array Value)[o]? := fun w' o' v' hh o => (World.cell?_setCell_far w' ⟨N, o', none⟩ ⟨w.heap.size, o, none⟩ v' (by have := HM.out.far; show N ≠ w.heap.size; omega)).trans (hh o)
        have HKS := Lib.hid hKS
        clear hKS
        have HD : Hid (Mid w wc.drew N ⟨4, h, x, y, z, v⟩ ⟨4, ⟨ho, hn⟩, noText, zeroR, zeroR, noText⟩) := Lib.hid ⟨HM.out.below.drew, HM.out.box, HM.out.out, HM.out.at_, HM.out.far⟩
        have hcd := HD.out.cbox
        go_upto_region 10 with fail
        clear hc
        go_region_held3 (fun w' => ∀ o, w'.cell? ⟨w.heap.size, o, none⟩ = (#[.int .i64 4, .int .i64 h, .int .i64 x, .int .i64 y, .int .i64 z, .int .i64 v] : Array Value)[o]?)
          (first | with_reducible assumption | exact HKS.out _ _ _ (by with_reducible assumption) | exact HKS.out _ _ _ (HKS.out _ _ _ (by with_reducible assumption)))
          (first | ((with_reducible refine (HRy.out _ HD.out.below).mono ?_); rintro e w4 ⟨rfl, hb4⟩; have HM4 := Lib.hid (HD.out.keep hb4); have hc4 := HM4.out.cbox) | ((with_reducible refine (HRz.out _ HM4.out.below).mono ?_); rintro e w5 ⟨rfl, hb5⟩; have HM5 := Lib.hid (HM4.out.keep hb5); have hc5 := HM5.out.cbox; have hr5 := HM5.out.cat; have hf5 := HM5.out.free))
        have HM6 : Hid (Mid w ((((w5.setCell ⟨N, 4, none⟩ (.string yo)).setCell ⟨N, 5, none⟩ (.string yn)).setCell ⟨N, 6, none⟩ (.string zo)).setCell ⟨N, 7, none⟩ (.string zn)) N ⟨4, h, x, y, z, v⟩ ⟨4, ⟨ho, hn⟩, noText, ⟨yo, yn⟩, ⟨zo, zn⟩, noText⟩) := Lib.hid ((((HM5.out.set 4 (.string yo) ⟨4, ⟨ho, hn⟩, noText, ⟨yo, noText⟩, zeroR, noText⟩ rfl).set 5 (.string yn) ⟨4, ⟨ho, hn⟩, noText, ⟨yo, yn⟩, zeroR, noText⟩ rfl).set 6 (.string zo) ⟨4, ⟨ho, hn⟩, noText, ⟨yo, yn⟩, ⟨zo, noText⟩, noText⟩ rfl).set 7 (.string zn) ⟨4, ⟨ho, hn⟩, noText, ⟨yo, yn⟩, ⟨zo, zn⟩, noText⟩ rfl)
        have HN1 : Hid (∀ w', Calls Try.prog 50 #[.agg (St.arr (⟨4, ⟨ho, hn⟩, noText, ⟨yo, yn⟩, ⟨zo, zn⟩, noText⟩ : St))] w' fun e w'' => e = .returned ((⟨4, ⟨ho, hn⟩, noText, ⟨yo, yn⟩, ⟨zo, zn⟩, noText⟩ : St).normal).val ∧ Grew w' w'') := Lib.hid HNo.out
        have HS1 : Hid (sA = (⟨4, ⟨ho, hn⟩, noText, ⟨yo, yn⟩, ⟨zo, zn⟩, noText⟩ : St).normal) := Lib.hid HSz.out
        generalize (⟨4, ⟨ho, hn⟩, noText, ⟨yo, yn⟩, ⟨zo, zn⟩, noText⟩ : St).normal = sN at HN1 HS1
        go_wp2_with (refine wpList_load_row rfl 26 _ rfl N rfl 26 (St.arr (⟨4, ⟨ho, hn⟩, noText, ⟨yo, yn⟩, ⟨zo, zn⟩, noText⟩ : St)) (0, 0) _ HM6.out.at_ Try.underlying26 rfl infoSt ?_)
        refine (HN1.out _).mono ?_
        rintro e w9 ⟨rfl, hg⟩
        have HO9 := Lib.hid ((hg.below.block _ (Array.getElem?_eq_some_iff.1 HM6.out.out).1).trans HM6.out.out)
        have HB9 := Lib.hid (nx HM6.out.below hg.below)
        clear hg
        go_wp2_with (refine wpList_store_row rfl 26 _ _ rfl (w.heap.size + 1) #[.int .i64 sN.kind, .string sN.head.owner, .string sN.head.name, .string sN.who, .string sN.a.owner, .string sN.a.name, .string sN.b.owner, .string sN.b.name, .string sN.via] rfl rfl 26 _ HO9.out infoSt rfl (one9 sN) ?_)
        have hl := cell_st sN HO9.out
        have hz := below_setRow HB9.out (show w.heap.size ≤ w.heap.size + 1 by omega) #[.int .i64 sN.kind, .string sN.head.owner, .string sN.head.name, .string sN.who, .string sN.a.owner, .string sN.a.name, .string sN.b.owner, .string sN.b.name, .string sN.via]
        generalize World.setRow _ (w.heap.size + 1) #[.int .i64 sN.kind, .string sN.head.owner, .string sN.head.name, .string sN.who, .string sN.a.owner, .string sN.a.name, .string sN.b.owner, .string sN.b.name, .string sN.via] = wz at hl hz ⊢
        refine bodyPost_ret (v := .tuple #[.agg #[.int .i64 sN.kind, .string sN.head.owner, .string sN.head.name, .string sN.who, .string sN.a.owner, .string sN.a.name, .string sN.b.owner, .string sN.b.name, .string sN.via], .bool true]) (by simp [results, Try.results30, go_sem, hl]) rfl ⟨by rw [HS1.out]; rfl, hz⟩
end
end Go.Proofs.Ytnhjnimgjpgfcaa.TblR
