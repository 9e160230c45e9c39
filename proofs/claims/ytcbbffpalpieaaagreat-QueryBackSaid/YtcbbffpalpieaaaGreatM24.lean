/- For all queries and every line: a query that may be is parsed from its line; two are one just if their lines are; what is parsed may be; and the document's example stands. -/
import Derived.Test.YtcbbffpalpieaaaGreatM20
import Derived.Test.YtcbbffpalpieaaaGreatM23
import Derived.Deep.RegionHeld3
namespace Go.Proofs.YtcbbffpalpieaaaGreat.QryU
set_option linter.unusedVariables false
set_option linter.unusedSimpArgs false
open Go.RowKit Go.Sort Go.Proofs Go.Proofs.YtcbbffpalpieaaaGreat.Plain Go.Proofs.YtcbbffpalpieaaaGreat.SynP Go.Proofs.YtcbbffpalpieaaaGreat.TabP Go.Proofs.YtcbbffpalpieaaaGreat.Tab1 Go.Proofs.YtcbbffpalpieaaaGreat.Grown Go.Proofs.YtcbbffpalpieaaaGreat.Scan3 Go.Proofs.YtcbbffpalpieaaaGreat.SynX Go.Proofs.YtcbbffpalpieaaaGreat.QryP Go.Proofs.YtcbbffpalpieaaaGreat.Qry2 Go.Proofs.YtcbbffpalpieaaaGreat.Qry7 Go.Proofs.YtcbbffpalpieaaaGreat.QryB Go.Proofs.YtcbbffpalpieaaaGreat.QryC Go.Proofs.YtcbbffpalpieaaaGreat.QryE Go.Proofs.YtcbbffpalpieaaaGreat.QryL Go.Proofs.YtcbbffpalpieaaaGreat.QryH Go.Proofs.YtcbbffpalpieaaaGreat.QryM Go.Proofs.YtcbbffpalpieaaaGreat.QryN Go.Proofs.YtcbbffpalpieaaaGreat.QryO Go.Proofs.YtcbbffpalpieaaaGreat.QryS
set_option linter.unusedVariables false
set_option linter.unusedSimpArgs false
theorem code3 {m rt : Bool} {p : Prop} [Decidable p] (h : (if m = true then (5 : Int) else if p then 2 else if rt = true then 0 else 3) = 0) : rt = true := by
  cases m
  · rw [if_neg (by decide)] at h
    by_cases hp : p
    · rw [if_pos hp] at h; exact absurd h (by decide)
    · rw [if_neg hp] at h
      cases rt
      · exact absurd h (by decide)
      · rfl
  · rw [if_pos rfl] at h; exact absurd h (by decide)
def AskOpen (k : Int) (ao an bo bn : ByteArray) (T : List Str) (p er : Int) (w : World) (e : Ending) (w' : World) : Prop := ∃ A c, e = .returned (.tuple #[.agg #[.int .i64 k, .string ao, .string an, .string bo, .string bn, .slice A T.length c], .int .i64 p, .int .i64 er]) ∧ SRow w' A T ∧ RowKit.Below w.heap.size w w'
theorem ask_open {k : Int} {ao an bo bn : ByteArray} {T : List Str} {p er : Int} {w w' : World} {e : Ending} (h : AskPost (⟨k, ⟨ao, an⟩, ⟨bo, bn⟩, T⟩, p, er) w e w') : AskOpen k ao an bo bn T p er w e w' := by
  obtain ⟨A, c, h1, h2, _, h4⟩ := h
  exact ⟨A, c, h1, h2, h4⟩
theorem readQ_right {L : List Tk} {k : Int} (h : (readQ k L).2.2 = 0) : (readQ k L).1.right = true := by
  by_cases hf : fullQ L k
  · unfold fullQ at hf
    unfold readQ at *
    simp only [] at *
    rw [if_pos hf] at *
    exact code3 h
  · rw [readQ_no hf] at h
    exact absurd h (errOf_ne _ _)
/-- What is parsed: an error, or a query that may be. -/
theorem parse_cases (t : ByteArray) : (∃ c e, askA (ansOf t) = (zeroQ, c, e) ∧ e ≠ 0) ∨ (∃ x : Qy, askA (ansOf t) = (x, 0, 0) ∧ x.right = true) := by
  cases h : ansOf t with
  | bad c e => exact .inl ⟨c, e, rfl, by rcases ans_bad h with rfl | rfl <;> decide⟩
  | ok L =>
    by_cases hK : ∃ K : Nat, 1 ≤ K ∧ K ≤ 6 ∧ fullQ L (K : Int)
    · obtain ⟨K, h1, h6, hf⟩ := hK
      have hp := parseQ_at h1 h6 hf
      unfold lastQ at hp
      by_cases h0 : (readQ (K : Int) L).2.2 = 0
      · rw [if_pos h0] at hp
        exact .inr ⟨_, hp, readQ_right h0⟩
      · rw [if_neg h0] at hp
        exact .inl ⟨_, _, hp, h0⟩
    · exact .inl ⟨_, _, parseQ_none (fun j a b c => hK ⟨j, a, b, c⟩), errOf_ne _ _⟩
/-- Two queries that may be are one just if their lines are. -/
theorem line_inj {a b : Qy} (ha : a.right = true) (hb : b.right = true) (h : lineQ a = lineQ b) : a = b := by
  obtain ⟨L, h1, h2⟩ := parse_line ha
  obtain ⟨M, h3, h4⟩ := parse_line hb
  rw [h, h3] at h1
  injection h1 with e
  subst e
  rw [h4] at h2
  exact (congrArg (fun p : Qy × Int × Int => p.1) h2).symm
theorem lines_same {a b : Qy} (ha : a.right = true) (hb : b.right = true) : ((lineQ a).toList == (lineQ b).toList) = sameB a b := by
  by_cases h : a = b
  · subst h
    rw [sameB_eq.2 rfl]; simp
  · have h1 : sameB a b = false := by
      cases e : sameB a b
      · rfl
      · exact absurd (sameB_eq.1 e) h
    rw [h1, beq_eq_false_iff_ne]
    intro e
    rw [Go.ByteArray.toList_eq, Go.ByteArray.toList_eq] at e
    exact h (line_inj ha hb (ba_ext e))
theorem line_call {q : Qy} (h : q.right = true) (w : World) : Calls Tryz.prog 20 #[.string (lineQ q)] w (AskPost (q, 0, 0) w) := by
  obtain ⟨L, e1, e2⟩ := parse_line h
  have hz : (lineQ q).size ≤ 1000000 := by
    unfold ansOf at e1
    split at e1
    · cases e1
    · omega
  have hp := parse (lineQ q) w hz
  have e3 : askA (ansOf (lineQ q)) = (q, 0, 0) := by rw [e1]; exact e2
  rw [e3] at hp
  exact hp
/-- The two boxes of the arguments, and what they hold, in a later world. -/
structure Env (w v : World) (k : Int) (ao an bo bn : ByteArray) (A : Option Addr) (c : Nat) (T : List Str) (k' : Int) (ao' an' bo' bn' : ByteArray) (B : Option Addr) (d : Nat) (U : List Str) : Prop where
  la : w.heap.size + 1 < v.heap.size
  ca : ∀ o, v.cell? ⟨w.heap.size, o, none⟩ = (#[.int .i64 k, .string ao, .string an, .string bo, .string bn, .slice A T.length c] : Array Value)[o]?
  cb : ∀ o, v.cell? ⟨w.heap.size + 1, o, none⟩ = (#[.int .i64 k', .string ao', .string an', .string bo', .string bn', .slice B U.length d] : Array Value)[o]?
  ra : SRow v A T
  rb : SRow v B U
  be : RowKit.Below w.heap.size w v
theorem Env.below {w v v' : World} {k : Int} {ao an bo bn : ByteArray} {A : Option Addr} {c : Nat} {T : List Str} {k' : Int} {ao' an' bo' bn' : ByteArray} {B : Option Addr} {d : Nat} {U : List Str} (h : Env w v k ao an bo bn A c T k' ao' an' bo' bn' B d U) (hb : RowKit.Below v.heap.size v v') : Env w v' k ao an bo bn A c T k' ao' an' bo' bn' B d U := by
  have hl := h.la
  have hs := hb.size
  exact ⟨by omega, fun o => (hb.cell (p := ⟨w.heap.size, o, none⟩) (by show w.heap.size < _; omega)).trans (h.ca o), fun o => (hb.cell (p := ⟨w.heap.size + 1, o, none⟩) (by show w.heap.size + 1 < _; omega)).trans (h.cb o), h.ra.keep hb, h.rb.keep hb, h.be.trans (hb.mono (by omega))⟩
theorem Env.start (w : World) (k : Int) (ao an bo bn : ByteArray) (A : Option Addr) (c : Nat) (T : List Str) (k' : Int) (ao' an' bo' bn' : ByteArray) (B : Option Addr) (d : Nat) (U : List Str) (hA : SRow w A T) (hB : SRow w B U) : Env w ((w.alloc (.cells #[.int .i64 k, .string ao, .string an, .string bo, .string bn, .slice A T.length c] 26)).alloc (.cells #[.int .i64 k', .string ao', .string an', .string bo', .string bn', .slice B U.length d] 26)) k ao an bo bn A c T k' ao' an' bo' bn' B d U := by
  have b1 := (Below.refl w.heap.size w).alloc (Nat.le_refl _) (.cells #[.int .i64 k, .string ao, .string an, .string bo, .string bn, .slice A T.length c] 26)
  have b2 := (Below.refl (w.alloc (.cells #[.int .i64 k, .string ao, .string an, .string bo, .string bn, .slice A T.length c] 26)).heap.size (w.alloc (.cells #[.int .i64 k, .string ao, .string an, .string bo, .string bn, .slice A T.length c] 26))).alloc (Nat.le_refl _) (.cells #[.int .i64 k', .string ao', .string an', .string bo', .string bn', .slice B U.length d] 26)
  have b3 := b1.alloc (by simp) (.cells #[.int .i64 k', .string ao', .string an', .string bo', .string bn', .slice B U.length d] 26)
  refine ⟨by simp, fun o => (b2.cell (p := ⟨w.heap.size, o, none⟩) (by simp)).trans (Lib.cell_of_heap (heap_alloc_new w _) o), fun o => ?_, hA.keep b3, hB.keep b3, b3⟩
  have := Lib.cell_of_heap (heap_alloc_new (w.alloc (.cells #[.int .i64 k, .string ao, .string an, .string bo, .string bn, .slice A T.length c] 26)) (.cells #[.int .i64 k', .string ao', .string an', .string bo', .string bn', .slice B U.length d] 26)) o
  rw [World.size_alloc] at this
  exact this
theorem keep3 {W w1 w2 : World} {n m p : Nat} {f g h : Nat → Option Value} (hh : RowKit.Below W.heap.size W w1 ∧ (∀ o, w1.cell? ⟨n, o, none⟩ = f o) ∧ (∀ o, w1.cell? ⟨m, o, none⟩ = g o) ∧ (∀ o, w1.cell? ⟨p, o, none⟩ = h o)) (hn : n < W.heap.size) (hm : m < W.heap.size) (hp : p < W.heap.size) (hb : RowKit.Below w1.heap.size w1 w2) :
    RowKit.Below W.heap.size W w2 ∧ (∀ o, w2.cell? ⟨n, o, none⟩ = f o) ∧ (∀ o, w2.cell? ⟨m, o, none⟩ = g o) ∧ (∀ o, w2.cell? ⟨p, o, none⟩ = h o) := by
  have hs := hh.1.size
  exact ⟨hh.1.trans (hb.mono hs), fun o => (hb.cell (p := ⟨n, o, none⟩) (by show n < _; omega)).trans (hh.2.1 o), fun o => (hb.cell (p := ⟨m, o, none⟩) (by show m < _; omega)).trans (hh.2.2.1 o), fun o => (hb.cell (p := ⟨p, o, none⟩) (by show p < _; omega)).trans (hh.2.2.2 o)⟩
theorem light_len {q : Qy} (h : lightQ q = true) : q.who.length ≤ 1000000 := by
  unfold lightQ Tab6.lightB at h
  simp only [Bool.and_eq_true, decide_eq_true_eq] at h
  have := h.1.1
  omega
set_option maxHeartbeats 4000000 in
set_option maxRecDepth 100000 in
theorem back_err (k : Int) (ao an bo bn : ByteArray) (A : Option Addr) (c : Nat) (T : List Str) (k' : Int) (ao' an' bo' bn' : ByteArray) (B : Option Addr) (d : Nat) (U : List Str) (s : ByteArray) (w : World) (hs : s.size ≤ maxLen) (hfa : Qy.fit ⟨k, ⟨ao, an⟩, ⟨bo, bn⟩, T⟩) (hfb : Qy.fit ⟨k', ⟨ao', an'⟩, ⟨bo', bn'⟩, U⟩) (hA : SRow w A T) (hB : SRow w B U) (cc er : Int) (he : er ≠ 0) (hc : askA (ansOf (s.extract 0 (min (s.size : Int) 300).toNat)) = (zeroQ, cc, er)) :
    Calls Tryz.prog 5 #[.agg #[.int .i64 k, .string ao, .string an, .string bo, .string bn, .slice A T.length c], .agg #[.int .i64 k', .string ao', .string an', .string bo', .string bn', .slice B U.length d], .string s] w fun e w' => e = .returned (.bool true) ∧ RowKit.Below w.heap.size w w' := by
  unfold maxLen at hs
  have H0 := Lib.hid (Env.start w k ao an bo bn A c T k' ao' an' bo' bn' B d U hA hB)
  have HLa := Lib.hid (fun w' (hr : SRow w' A T) => light ⟨k, ⟨ao, an⟩, ⟨bo, bn⟩, T⟩ A c w' hfa hr)
  have HLb := Lib.hid (fun w' (hr : SRow w' B U) => light ⟨k', ⟨ao', an'⟩, ⟨bo', bn'⟩, U⟩ B d w' hfb hr)
  have HRa := Lib.hid (fun w' (hr : SRow w' A T) => Qry2.right k ao an bo bn A c T w' hfa hr)
  have HRb := Lib.hid (fun w' (hr : SRow w' B U) => Qry2.right k' ao' an' bo' bn' B d U w' hfb hr)
  have HPa := Lib.hid (fun w' (hr : SRow w' A T) => QryI.print ⟨k, ⟨ao, an⟩, ⟨bo, bn⟩, T⟩ A c w' hfa hr)
  have HPb := Lib.hid (fun w' (hr : SRow w' B U) => QryI.print ⟨k', ⟨ao', an'⟩, ⟨bo', bn'⟩, U⟩ B d w' hfb hr)
  have HlA := Lib.hid (fun h => light_len (q := ⟨k, ⟨ao, an⟩, ⟨bo, bn⟩, T⟩) h)
  have HlB := Lib.hid (fun h => light_len (q := ⟨k', ⟨ao', an'⟩, ⟨bo', bn'⟩, U⟩) h)
  have HSab := Lib.hid (fun w' h1 h2 (hr : SRow w' A T) (hr' : SRow w' B U) => sameQ ⟨k, ⟨ao, an⟩, ⟨bo, bn⟩, T⟩ ⟨k', ⟨ao', an'⟩, ⟨bo', bn'⟩, U⟩ A B c d w' h1 h2 hr hr')
  have HTab := Lib.hid (fun w' h1 h2 (hr : SRow w' A T) (hr' : SRow w' B U) => sameRefQ ⟨k, ⟨ao, an⟩, ⟨bo, bn⟩, T⟩ ⟨k', ⟨ao', an'⟩, ⟨bo', bn'⟩, U⟩ A B c d w' h1 h2 hr hr')
  have HSxa := Lib.hid (fun w' Ax cx h1 (hr : SRow w' Ax T) (hr' : SRow w' A T) => sameQ ⟨k, ⟨ao, an⟩, ⟨bo, bn⟩, T⟩ ⟨k, ⟨ao, an⟩, ⟨bo, bn⟩, T⟩ Ax A cx c w' h1 h1 hr hr')
  have HCall := Lib.hid (fun h => line_call (q := ⟨k, ⟨ao, an⟩, ⟨bo, bn⟩, T⟩) h)
  have HLin := Lib.hid (fun h1 h2 => lines_same (a := ⟨k, ⟨ao, an⟩, ⟨bo, bn⟩, T⟩) (b := ⟨k', ⟨ao', an'⟩, ⟨bo', bn'⟩, U⟩) h1 h2)
  have Haa : Hid (sameB ⟨k, ⟨ao, an⟩, ⟨bo, bn⟩, T⟩ ⟨k, ⟨ao, an⟩, ⟨bo, bn⟩, T⟩ = true) := Lib.hid (sameB_eq.2 rfl)
  clear hfa hfb hA hB
  go_enter Tryz.func5, Tryz.ntmps5
  go_wp2_with fail
  have hsz : (s.extract 0 (min (s.size : Int) 300).toNat).size ≤ 1000000 := by
    rw [ByteArray.size_extract]; omega
  generalize s.extract 0 (min (s.size : Int) 300).toNat = t at *
  have hp := fun w => parse t w hsz
  rw [hc] at hp
  have HP : Hid (∀ w, Calls Tryz.prog 20 #[.string t] w (AskOpen 0 ⟨#[]⟩ ⟨#[]⟩ ⟨#[]⟩ ⟨#[]⟩ [] cc er w)) := Lib.hid (fun w => (hp w).mono (fun e w' h => ask_open h))
  clear hp hc
  have e1 : (er == 0) = false := by simpa using he
  clear he
  refine (HP.out _).mono ?_
  rintro e w1 ⟨Ax, cx, rfl, hrx, hb1⟩
  have H1 := Lib.hid (H0.out.below hb1)
  have H3 := Lib.hid (H1.out.below ((Below.refl _ _).alloc (Nat.le_refl _) (.cells #[.int .i64 0, .string ⟨#[]⟩, .string ⟨#[]⟩, .string ⟨#[]⟩, .string ⟨#[]⟩, .slice Ax 0 cx] 26)))
  have hrx3 := Lib.hid (hrx.keep ((Below.refl _ _).alloc (Nat.le_refl _) (.cells #[.int .i64 0, .string ⟨#[]⟩, .string ⟨#[]⟩, .string ⟨#[]⟩, .string ⟨#[]⟩, .slice Ax 0 cx] 26)))
  have hl1 := H1.out.la
  have ca1 := H1.out.ca
  have cb1 := H1.out.cb
  have la1 : w.heap.size < w1.heap.size := by omega
  clear hb1 hrx H0 hl1
  go_wp2_with fail
  clear ca1 cb1 H1 hrx3
  generalize w1.alloc (.cells #[.int .i64 0, .string ⟨#[]⟩, .string ⟨#[]⟩, .string ⟨#[]⟩, .string ⟨#[]⟩, .slice Ax 0 cx] 26) = v0 at *
  have H4 := H3
  have ca4 := H4.out.ca
  have cb4 := H4.out.cb
  generalize lightQ ⟨k, ⟨ao, an⟩, ⟨bo, bn⟩, T⟩ = la at *
  generalize lightQ ⟨k', ⟨ao', an'⟩, ⟨bo', bn'⟩, U⟩ = lb at *
  generalize hra : Qy.right ⟨k, ⟨ao, an⟩, ⟨bo, bn⟩, T⟩ = ra at *
  generalize hrb : Qy.right ⟨k', ⟨ao', an'⟩, ⟨bo', bn'⟩, U⟩ = rb at *
  unfold RightPost at HRa HRb
  rw [hra] at HRa
  rw [hrb] at HRb
  have HRA := Lib.hid hra
  have HRB := Lib.hid hrb
  clear hra hrb
  refine (HLa.out _ H4.out.ra).mono ?_
  rintro e v1 ⟨rfl, hg1⟩
  have H5 := Lib.hid (H4.out.below hg1.below)
  clear hg1 H4
  cases la
  · go_wp2_with fail
    refine (lives _).mono ?_
    rintro e v9 ⟨rfl, hb9⟩
    go_wp2_with fail
    go_ret
    exact ⟨rfl, (H5.out.below hb9).be⟩
  · have hlA := HlA.out rfl
    have ca5 := H5.out.ca
    have cb5 := H5.out.cb
    go_wp2_with fail
    clear ca5 cb5
    refine (HLb.out _ H5.out.rb).mono ?_
    rintro e v2 ⟨rfl, hg2⟩
    have H6 := Lib.hid (H5.out.below hg2.below)
    clear hg2 H5
    cases lb
    · go_wp2_with fail
      refine (lives _).mono ?_
      rintro e v9 ⟨rfl, hb9⟩
      go_wp2_with fail
      go_ret
      exact ⟨rfl, (H6.out.below hb9).be⟩
    · have hlB := HlB.out rfl
      have ca6 := H6.out.ca
      have cb6 := H6.out.cb
      go_wp2_with fail
      clear ca6 cb6
      refine (HRa.out _ H6.out.ra).mono ?_
      rintro e v3 ⟨rfl, hb3⟩
      have H7 := Lib.hid (H6.out.below hb3)
      clear hb3 H6
      cases ra
      · go_wp2_with fail
        refine (lives _).mono ?_
        rintro e v9 ⟨rfl, hb9⟩
        go_wp2_with fail
        go_ret
        exact ⟨rfl, (H7.out.below hb9).be⟩
      · have ca7 := H7.out.ca
        have cb7 := H7.out.cb
        go_wp2_with fail
        clear ca7 cb7
        refine (HRb.out _ H7.out.rb).mono ?_
        rintro e v4 ⟨rfl, hb4⟩
        have H8 := Lib.hid (H7.out.below hb4)
        clear hb4 H7
        cases rb
        · go_wp2_with fail
          refine (lives _).mono ?_
          rintro e v9 ⟨rfl, hb9⟩
          go_wp2_with fail
          go_ret
          exact ⟨rfl, (H8.out.below hb9).be⟩
        · have hli := HLin.out (by first | trivial | exact HRA.out) (by first | trivial | exact HRB.out)
          have hCa := HCall.out (by first | trivial | exact HRA.out)
          unfold LinePost at HPa HPb
          unfold SameP at HSab HTab HSxa
          unfold Qy.val at HSab HTab HSxa HPa HPb
          dsimp only at HSab HTab HSxa HPa HPb
          generalize lineQ ⟨k, ⟨ao, an⟩, ⟨bo, bn⟩, T⟩ = lna at *
          generalize lineQ ⟨k', ⟨ao', an'⟩, ⟨bo', bn'⟩, U⟩ = lnb at *
          generalize hsab : sameB ⟨k, ⟨ao, an⟩, ⟨bo, bn⟩, T⟩ ⟨k', ⟨ao', an'⟩, ⟨bo', bn'⟩, U⟩ = sb at *
          rw [Haa.out] at HSxa
          have HCa : Hid (∀ w, Calls Tryz.prog 20 #[.string lna] w (AskOpen k ao an bo bn T 0 0 w)) := Lib.hid (fun w => (hCa w).mono (fun e w' h => ask_open h))
          have ca8 := H8.out.ca
          have cb8 := H8.out.cb
          clear hCa HLin HCall hsab Haa HRA HRB
          have HLI := Lib.hid hli
          clear hli
          go_wp2_with fail
          clear ca8 cb8
          refine (HPa.out _ H8.out.ra).mono ?_
          rintro e v5 ⟨rfl, hb5⟩
          have H9 := Lib.hid (H8.out.below hb5)
          clear hb5 H8
          go_wp2_with fail
          refine (HCa.out _).mono ?_
          rintro e v6 ⟨Ax, cx, rfl, hry, hb6⟩
          have H10 := Lib.hid ((H9.out.below hb6).below ((Below.refl _ _).alloc (Nat.le_refl _) (.cells #[.int .i64 k, .string ao, .string an, .string bo, .string bn, .slice Ax T.length cx] 26)))
          have hry2 := Lib.hid (hry.keep ((Below.refl _ _).alloc (Nat.le_refl _) (.cells #[.int .i64 k, .string ao, .string an, .string bo, .string bn, .slice Ax T.length cx] 26)))
          have hbx := Lib.hid (fun o => Lib.cell_of_heap (heap_alloc_new v6 (.cells #[.int .i64 k, .string ao, .string an, .string bo, .string bn, .slice Ax T.length cx] 26)) o)
          have hx6 := hb6.size
          clear hry hb6 H9
          have hla6 := H10.out.la
          go_wp2_with fail
          have hxx : v6.heap.size < (v6.alloc (.cells #[.int .i64 k, .string ao, .string an, .string bo, .string bn, .slice Ax T.length cx] 26)).heap.size := by simp
          generalize hW : v6.alloc (.cells #[.int .i64 k, .string ao, .string an, .string bo, .string bn, .slice Ax T.length cx] 26) = W at *
          clear hW
          have z1 : w.heap.size < W.heap.size := by omega
          have z2 : w.heap.size + 1 < W.heap.size := hla6
          have hst : RowKit.Below W.heap.size W W.drew ∧ (∀ o, W.drew.cell? ⟨w.heap.size, o, none⟩ = (#[.int .i64 k, .string ao, .string an, .string bo, .string bn, .slice A T.length c] : Array Value)[o]?) ∧ (∀ o, W.drew.cell? ⟨w.heap.size + 1, o, none⟩ = (#[.int .i64 k', .string ao', .string an', .string bo', .string bn', .slice B U.length d] : Array Value)[o]?) ∧ (∀ o, W.drew.cell? ⟨v6.heap.size, o, none⟩ = (#[.int .i64 k, .string ao, .string an, .string bo, .string bn, .slice Ax T.length cx] : Array Value)[o]?) := ⟨(Below.refl _ _).drew, H10.out.ca, H10.out.cb, hbx.out⟩
          have HrA := Lib.hid (fun (w' : World) (hb : RowKit.Below W.heap.size W w') => H10.out.ra.keep hb)
          have HrB := Lib.hid (fun (w' : World) (hb : RowKit.Below W.heap.size W w') => H10.out.rb.keep hb)
          have HrX := Lib.hid (fun (w' : World) (hb : RowKit.Below W.heap.size W w') => hry2.out.keep hb)
          have HbW := Lib.hid H10.out.be
          clear H10 hry2 hbx hla6 hx6
          cases sb
          all_goals
            have hli := HLI.out
            go_region_held3 (fun w' => RowKit.Below W.heap.size W w' ∧ (∀ o, w'.cell? ⟨w.heap.size, o, none⟩ = (#[.int .i64 k, .string ao, .string an, .string bo, .string bn, .slice A T.length c] : Array Value)[o]?) ∧ (∀ o, w'.cell? ⟨w.heap.size + 1, o, none⟩ = (#[.int .i64 k', .string ao', .string an', .string bo', .string bn', .slice B U.length d] : Array Value)[o]?) ∧ (∀ o, w'.cell? ⟨v6.heap.size, o, none⟩ = (#[.int .i64 k, .string ao, .string an, .string bo, .string bn, .slice Ax T.length cx] : Array Value)[o]?))
              (first | with_reducible exact hst | with_reducible assumption | exact keep3 (by with_reducible assumption) z1 z2 hxx (by with_reducible assumption))
              (first | (go_at_call 14; ((with_reducible refine (HPa.out _ (HrA.out _ (by apply And.left; with_reducible assumption))).mono ?_); rintro e w' ⟨rfl, hgb⟩)) | (go_at_call 14; ((with_reducible refine (HPb.out _ (HrB.out _ (by apply And.left; with_reducible assumption))).mono ?_); rintro e w' ⟨rfl, hgb⟩)) | (go_at_call 25; ((with_reducible refine (HSxa.out _ Ax cx hlA (HrX.out _ (by apply And.left; with_reducible assumption)) (HrA.out _ (by apply And.left; with_reducible assumption))).mono ?_); rintro e w' ⟨rfl, hgb⟩)) | (go_at_call 25; ((with_reducible refine (HSab.out _ hlA hlB (HrA.out _ (by apply And.left; with_reducible assumption)) (HrB.out _ (by apply And.left; with_reducible assumption))).mono ?_); rintro e w' ⟨rfl, hgb⟩)) | (go_at_call 23; refine (HTab.out _ hlA hlB (HrA.out _ (by apply And.left; with_reducible assumption)) (HrB.out _ (by apply And.left; with_reducible assumption))).mono ?_; rintro e w' ⟨rfl, hgb⟩) | (go_at_call 7; refine (lives _).mono ?_; rintro e w' ⟨rfl, hgb⟩))
            rename_i hHeld
            go_wp2_with fail
            go_ret
            exact ⟨rfl, HbW.out.trans (hHeld.1.mono HbW.out.size)⟩
end Go.Proofs.YtcbbffpalpieaaaGreat.QryU
