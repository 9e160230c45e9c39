/- The line of a query, in the program, by contract. -/
import Derived.Test.YtpjacngbkohmdaaM17
import Derived.Test.YtpjacngbkohmdaaM15
import Derived.Test.YtpjacngbkohmdaaJoin
import Derived.Test.YtpjacngbkohmdaaM14
import Derived.Test.YtpjacngbkohmdaaM09
import Derived.Test.YtpjacngbkohmdaaM16
namespace Go.Proofs.Ytpjacngbkohmdaa.QryH
set_option linter.unusedVariables false
set_option linter.unusedSimpArgs false
open Go.RowKit Go.Sort Go.Proofs Go.Proofs.Ytpjacngbkohmdaa.Plain Go.Proofs.Ytpjacngbkohmdaa.SynP Go.Proofs.Ytpjacngbkohmdaa.TabP Go.Proofs.Ytpjacngbkohmdaa.Tab1 Go.Proofs.Ytpjacngbkohmdaa.Grown Go.Proofs.Ytpjacngbkohmdaa.SynC Go.Proofs.Ytpjacngbkohmdaa.SynW Go.Proofs.Ytpjacngbkohmdaa.QryP Go.Proofs.Ytpjacngbkohmdaa.Qry2 Go.Proofs.Ytpjacngbkohmdaa.Qry4 Go.Proofs.Ytpjacngbkohmdaa.Qry5 Go.Proofs.Ytpjacngbkohmdaa.QryG Go.Proofs.Ytpjacngbkohmdaa.Qry6 Go.Proofs.Ytpjacngbkohmdaa.Qry7 Go.Proofs.Ytpjacngbkohmdaa.QryA Go.Proofs.Ytpjacngbkohmdaa.QryL
set_option linter.unusedVariables false
set_option linter.unusedSimpArgs false
theorem bs_of (x : ByteArray) : x = ⟨(bs x).toArray⟩ := text_of x
theorem vrow_of {w : World} {A : Option Addr} {T : List Str} (h : SRow w A T) : VRow w A (T.map encStr) := fun hp => by
  obtain ⟨g, o, e, hg, hc⟩ := h (by simpa using hp)
  refine ⟨g, o, e, hg, fun j hj => ?_⟩
  rw [List.length_map] at hj
  rw [hc j hj]
  simp [encStr]
theorem srow_two (X : World) (x y : ByteArray) : SRow (X.alloc (.cells #[.string x, .string y] 9)) (some ⟨X.heap.size, 0, none⟩) [bs x, bs y] := by
  have h := srow_new X [bs x, bs y] 9
  have e : ((([bs x, bs y] : List Str).map encStr).toArray : Array Value) = #[.string x, .string y] := by
    have a := bs_of x
    have b := bs_of y
    show #[Value.string ⟨(bs x).toArray⟩, Value.string ⟨(bs y).toArray⟩] = _
    rw [← a, ← b]
  rw [e] at h
  exact h
def LinePost (q : Qy) (w : World) (e : Ending) (w' : World) : Prop := e = .returned (.string (lineQ q)) ∧ RowKit.Below w.heap.size w w'
theorem fit_of_right {q : Qy} (h : q.right = true) : q.fit := by
  obtain ⟨ha, hc⟩ := right_parts h
  have role : ∀ r : Rl, r.ok = true → r.light := fun r h => by
    have := SynL.ok_small (o := r.owner) (n := r.name) h
    exact ⟨by unfold maxLen; omega, by unfold maxLen; omega⟩
  have zero : zeroR.light := ⟨by decide, by decide⟩
  refine ⟨role _ ha, ?_, ?_, ?_⟩
  · rcases hc with ⟨_, _, _, hb, _⟩ | ⟨_, _, hb⟩ | ⟨_, _, _, hb⟩
    · rw [hb]; exact zero
    · rw [hb]; exact zero
    · exact role _ hb
  · rcases hc with ⟨_, _, hw, _, _⟩ | ⟨_, hw, _⟩ | ⟨_, _, hw, _⟩
    · have := (who_parts hw).1; unfold maxLen; omega
    · rw [hw]; decide
    · rw [hw]; decide
  · rcases hc with ⟨_, _, hw, _, _⟩ | ⟨_, hw, _⟩ | ⟨_, _, hw, _⟩
    · intro s hs
      have := prin_len ((who_parts hw).2.1 s hs); unfold maxLen; omega
    · rw [hw]; intro s hs; simp at hs
    · rw [hw]; intro s hs; simp at hs
/-- The texts that a query's line joins, but the second role's. -/
def textsQ (q : Qy) : List Str := [bs (leadT q.kind), bs (textR q.a)] ++ wordsL q.kind ++ q.who
theorem join_no {q : Qy} (h : q.right = true) (hb : hasBk q.kind = false) : (⟨(Lib.join (textsQ q) [32]).toArray⟩ : ByteArray) = lineQ q := by
  unfold lineQ textsQ
  rw [if_pos h]
  have e : [bs (leadT q.kind), bs (textR q.a)] ++ wordsL q.kind ++ q.who = bs (leadT q.kind) :: ([bs (textR q.a)] ++ wordsL q.kind ++ q.who) := rfl
  rw [e, join_tail, tailW_app, tailW_app, words_tail (right_kind h)]
  unfold lineL
  rw [hb]
  simp
theorem join_yes {q : Qy} (h : q.right = true) (hb : hasBk q.kind = true) : (⟨(Lib.join (textsQ q ++ [bs (textR q.b)]) [32]).toArray⟩ : ByteArray) = lineQ q := by
  have hw : q.who = [] := by
    rcases (right_parts h).2 with ⟨_, e, _⟩ | ⟨e, _, _⟩ | ⟨_, _, e, _⟩
    · rw [e] at hb; cases hb
    · rw [e] at hb; exact absurd hb (by decide)
    · exact e
  unfold lineQ textsQ
  rw [if_pos h, hw, List.append_nil]
  have e : [bs (leadT q.kind), bs (textR q.a)] ++ wordsL q.kind ++ [bs (textR q.b)] = bs (leadT q.kind) :: ([bs (textR q.a)] ++ wordsL q.kind ++ [bs (textR q.b)]) := rfl
  rw [e, join_tail, tailW_app, tailW_app, words_tail (right_kind h)]
  unfold lineL
  rw [hb, hw, tailW_nil]
  simp
end Go.Proofs.Ytpjacngbkohmdaa.QryH
/- The line of a query that may be, in the program, by contract. -/
namespace Go.Proofs.Ytpjacngbkohmdaa.QryI
set_option linter.unusedVariables false
set_option linter.unusedSimpArgs false
open Go.RowKit Go.Sort Go.Proofs Go.Proofs.Ytpjacngbkohmdaa.Plain Go.Proofs.Ytpjacngbkohmdaa.SynP Go.Proofs.Ytpjacngbkohmdaa.TabP Go.Proofs.Ytpjacngbkohmdaa.Tab1 Go.Proofs.Ytpjacngbkohmdaa.Grown Go.Proofs.Ytpjacngbkohmdaa.SynC Go.Proofs.Ytpjacngbkohmdaa.SynW Go.Proofs.Ytpjacngbkohmdaa.QryP Go.Proofs.Ytpjacngbkohmdaa.Qry2 Go.Proofs.Ytpjacngbkohmdaa.Qry4 Go.Proofs.Ytpjacngbkohmdaa.Qry5 Go.Proofs.Ytpjacngbkohmdaa.QryG Go.Proofs.Ytpjacngbkohmdaa.Qry6 Go.Proofs.Ytpjacngbkohmdaa.Qry7 Go.Proofs.Ytpjacngbkohmdaa.QryA Go.Proofs.Ytpjacngbkohmdaa.QryL Go.Proofs.Ytpjacngbkohmdaa.QryH
set_option linter.unusedVariables false
set_option linter.unusedSimpArgs false
theorem chainP {w1 wz wp wb : World} {o : Obj} (hz : RowKit.Below w1.drew.heap.size w1.drew wz) (hp : RowKit.Below wz.heap.size wz wp) (hb : RowKit.Below (wp.alloc o).heap.size (wp.alloc o) wb) : RowKit.Below w1.heap.size w1 wb := by
  have a : RowKit.Below w1.heap.size w1 wz := ((Below.refl w1.heap.size w1).drew).trans hz
  have b := a.trans (hp.mono a.size)
  exact (b.alloc b.size o).trans (hb.mono (by have := b.size; simp; omega))
theorem chainQ {w1 wz wp wb : World} {o : Obj} (hz : RowKit.Below w1.drew.heap.size w1.drew wz) (hp : RowKit.Below wz.heap.size wz wp) (hb : RowKit.Below wp.heap.size wp wb) : RowKit.Below w1.heap.size w1 (wb.alloc o) := by
  have a : RowKit.Below w1.heap.size w1 wz := ((Below.refl w1.heap.size w1).drew).trans hz
  have b := a.trans (hp.mono a.size)
  have c := b.trans (hb.mono b.size)
  exact c.alloc c.size o
theorem new_one (X : World) (v : Value) (t : TypeId) : ∀ ad, (some ⟨X.heap.size, 0, none⟩ : Option Addr) = some ad → ∀ j u, [v][j]? = some u → (X.alloc (.cells #[v] t)).cell? (ad.add j) = some u := fun ad e j u hu => by
  injection e with e
  subst e
  rw [SynC.add_off, Nat.zero_add, Lib.cell_of_heap (heap_alloc_new X _)]
  simpa using hu
theorem words_len (k : Int) : (wordsL k).length ≤ 2 := by unfold wordsL; (repeat' split) <;> decide
theorem role_bs {r : Rl} (h : r.ok = true) : (bs (textR r)).length ≤ 1000 := by
  have a := role_size h
  have e : (bs (textR r)).length = (textR r).size := toList_len _
  omega
theorem texts_small {q : Qy} (h : q.right = true) : ∀ s ∈ textsQ q, s.length ≤ 1000 := by
  obtain ⟨ha, hc⟩ := right_parts h
  intro s hs
  unfold textsQ at hs
  rcases List.mem_append.1 hs with hs | hs
  · rcases List.mem_append.1 hs with hs | hs
    · rcases List.mem_cons.1 hs with rfl | hs
      · unfold leadT bs; split <;> decide
      · have : s = bs (textR q.a) := by simpa using hs
        rw [this]; exact role_bs ha
    · have key : ∀ k : Int, ∀ s ∈ wordsL k, s.length ≤ 1000 := by
        intro k s hs
        unfold wordsL at hs
        (repeat' split at hs) <;> simp at hs
        · rw [hs]; decide
        · rw [hs]; decide
        · rw [hs]; decide
        · rcases hs with hs | hs <;> rw [hs] <;> decide
        · rw [hs]; decide
        · rw [hs]; decide
      exact key _ s hs
  · rcases hc with ⟨_, _, hw, _, _⟩ | ⟨_, hw, _⟩ | ⟨_, _, hw, _⟩
    · have := prin_len ((who_parts hw).2.1 s hs); omega
    · rw [hw] at hs; simp at hs
    · rw [hw] at hs; simp at hs
theorem who_len {q : Qy} (h : q.right = true) : q.who.length ≤ 12 := by
  rcases (right_parts h).2 with ⟨_, _, hw, _, _⟩ | ⟨_, hw, _⟩ | ⟨_, _, hw, _⟩
  · exact (who_parts hw).1
  · rw [hw]; decide
  · rw [hw]; decide
end Go.Proofs.Ytpjacngbkohmdaa.QryI
