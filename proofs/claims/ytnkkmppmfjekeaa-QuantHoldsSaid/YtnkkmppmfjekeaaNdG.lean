/- Diagrams' nodes in memory: New, Make, by contract. -/
import Derived.Test.YtnkkmppmfjekeaaNdF
namespace Go.Proofs.Ytnkkmppmfjekeaa.NdG
open Go.RowKit Go.Lib Go.Proofs Go.Proofs.Ytnkkmppmfjekeaa.NdA Go.Proofs.Ytnkkmppmfjekeaa.NdH Go.Proofs.Ytnkkmppmfjekeaa.NdB Go.Proofs.Ytnkkmppmfjekeaa.NdC Go.Proofs.Ytnkkmppmfjekeaa.NdD Go.Proofs.Ytnkkmppmfjekeaa.NdE Go.Proofs.Ytnkkmppmfjekeaa.NdF
set_option linter.unusedVariables false
set_option linter.unusedSimpArgs false
/-- A table in memory, with all its nodes in their places. -/
structure Tk (w : World) (B R : Nat) (v : Value) (m : Nat) (Q : Nat → Nat) (s : St) : Prop where
  tb : Tb w B R v m Q s s.L.length
  room : 2 * s.L.length ≤ m
  m16 : 16 ≤ m
theorem Tk.below {w w' : World} {B R : Nat} {v : Value} {m : Nat} {Q : Nat → Nat} {s : St} (H : Tk w B R v m Q s) (hb : Below w.heap.size w w') : Tk w' B R v m Q s := ⟨H.tb.below hb, H.room, H.m16⟩
theorem Tk.frm {w w' : World} {B R : Nat} {v : Value} {m : Nat} {Q : Nat → Nat} {s : St} {F : Nat → Prop} (H : Tk w B R v m Q s) (hf : Frm F w w') (hd : ∀ k, Foot B R v k → ¬ F k) : Tk w' B R v m Q s := ⟨H.tb.keep (fun k hk => hf.block k (H.tb.foot hk) (hd k hk)), H.room, H.m16⟩
def start (vars budget : Int) : St := ⟨(max 0 (min vars 61)).toNat, (max 0 budget).toNat, false, []⟩
theorem tk_made (X : World) (vars budget : Nat) (h1 : vars ≤ 61) (h2 : budget ≤ 9223372036854775807) : Tk ((X.alloc (.cells (madeCells #[Value.int .i64 0] 16) 3)).alloc (.cells #[.int .i64 vars, .int .i64 budget, .bool false, .slice none 0 0, .slice (some ⟨X.heap.size, 0, none⟩) 16 16] 96)) (X.heap.size + 1) X.heap.size (.slice none 0 0) 16 (fun _ => 0) ⟨vars, budget, false, []⟩ := by
  refine ⟨⟨?_, ⟨madeCells #[Value.int .i64 0] 16, heap_alloc2_old X _ _, fun i hi => made_get 16 i hi⟩, World.ownsRow_nil _ _ _ _, Pls.start _ _ _, ⟨List.nodup_nil, fun i h => absurd h (Nat.not_lt_zero i), h1⟩, ⟨4, by omega, rfl⟩, by simp, by simp, h2⟩, by simp, by omega⟩
  have := heap_alloc_new (X.alloc (.cells (madeCells #[Value.int .i64 0] 16) 3)) (.cells #[.int .i64 vars, .int .i64 budget, .bool false, .slice none 0 0, .slice (some ⟨X.heap.size, 0, none⟩) 16 16] 96)
  simpa using this
def NewPost (vars budget : Int) (w : World) (e : Ending) (w' : World) : Prop := ∃ B R, e = .returned (.pointer (some ⟨B, 0, none⟩)) ∧ Tk w' B R (.slice none 0 0) 16 (fun _ => 0) (start vars budget) ∧ Below w.heap.size w w' ∧ w.heap.size ≤ B ∧ w.heap.size ≤ R
set_option maxRecDepth 100000 in
theorem new_ (vars budget : Int) (hb2 : budget ≤ 9223372036854775807) (w : World) : Calls Try.prog 39 #[.int .i64 vars, .int .i64 budget] w (NewPost vars budget w) := by
  unfold NewPost start
  obtain ⟨a, ha⟩ : ∃ a : Nat, max 0 (min vars 61) = (a : Int) := ⟨(max 0 (min vars 61)).toNat, by omega⟩
  obtain ⟨b, hb⟩ : ∃ b : Nat, max 0 budget = (b : Int) := ⟨(max 0 budget).toNat, by omega⟩
  have ha61 : a ≤ 61 := by omega
  have hb63 : b ≤ 9223372036854775807 := by omega
  rw [ha, hb]
  simp only [Int.toNat_natCast]
  have HM := Lib.hid (tk_made w a b ha61 hb63)
  obtain ⟨i0, hi, hz0, hz1, hz2⟩ := info_parts infoInt
  have mk := fun (w : World) => run_make (P := Try.prog) w 24 3 i0 _ Try.underlying24 hi hz0 .i64 .i64 16 16 (by omega) (by omega) (by rw [hz2]; omega) (by omega)
  rw [hz1] at mk
  have mk2 : ∀ w, (Instr.makeSlice 24 (.int .i64 16) (.int .i64 16)).run Try.prog w = .ok (.slice (some ⟨w.heap.size, 0, none⟩) 16 16) (w.alloc (.cells (madeCells #[Value.int .i64 0] 16) 3)) := mk
  clear mk hi hz0 hz1 hz2
  have HB := Lib.hid (show ∀ o1 o2, Below w.heap.size w ((w.alloc o1).alloc o2) from fun o1 o2 => ((Below.refl _ w).alloc (Nat.le_refl _) o1).alloc (by simp) o2)
  go_enter Try.func39, Try.ntmps39
  go_wp2_with fail
  go_ret
  exact ⟨w.heap.size + 1, w.heap.size, rfl, HM.out, HB.out _ _, by omega, by omega⟩
def MakePost (B R : Nat) (v : Value) (s : St) (x lo hi : Int) (w : World) (e : Ending) (w' : World) : Prop := e = .returned (.tuple #[.int .i64 (mkA s x lo hi), .int .i64 (mkE s x lo hi)]) ∧ ∃ R' v' m' Q', Tk w' B R' v' m' Q' (mkS s x lo hi) ∧ Frm (Foot B R v) w w' ∧ ∀ k, Foot B R' v' k → Foot B R v k ∨ w.heap.size ≤ k
section
variable {B R : Nat} {v : Value} {m : Nat} {Q : Nat → Nat} {s : St} {w : World}
/-- The table with its budget spent. -/
theorem Tk.spend (H : Tk w B R v m Q s) : Tk (w.setCell ⟨B, 2, none⟩ (.bool true)) B R v m Q { s with spent := true } := by
  obtain ⟨h1, h2, h3⟩ := Tb.ne H.tb
  obtain ⟨C, hC, hCi⟩ := H.tb.rb
  refine ⟨⟨?_, ⟨C, (Below.heap_setCell _ _ _ _ h1).trans hC, hCi⟩, own_block H.tb.own (fun g hg => Below.heap_setCell _ _ _ _ (fun e => h2 (hg.trans (congrArg some e)))), H.tb.pls, ⟨H.tb.wf.nodup, H.tb.wf.ok, H.tb.wf.v61⟩, H.tb.pow, H.tb.len, H.tb.lm, H.tb.bud⟩, H.room, H.m16⟩
  show (w.heap.modify B _)[B]? = _
  rw [Array.getElem?_modify, if_pos rfl, H.tb.fb]
  rfl
set_option maxHeartbeats 4000000 in
set_option maxRecDepth 100000 in
theorem make_no (x lo hi : Int) (l1 : -9223372036854775808 ≤ lo) (l2 : lo ≤ 9223372036854775807) (h1 : -9223372036854775808 ≤ hi) (h2 : hi ≤ 9223372036854775807) (H : Tk w B R v m Q s) (hm : mayB s x lo hi = false) : Calls Try.prog 79 #[.pointer (some ⟨B, 0, none⟩), .int .i64 x, .int .i64 lo, .int .i64 hi] w (MakePost B R v s x lo hi w) := by
  have ea : mkA s x lo hi = 0 := by unfold mkA; rw [hm]; rfl
  have ee : mkE s x lo hi = 6 := by unfold mkE; rw [hm]; rfl
  have es : mkS s x lo hi = s := by unfold mkS; rw [hm]; rfl
  unfold MakePost
  rw [ea, ee, es]
  have HM := Lib.hid (may_ x lo hi l1 l2 h1 h2 H.tb)
  rw [hm] at HM
  have HF := Lib.hid (show ∀ w', Below w.heap.size w w' → ∃ R' v' m' Q', Tk w' B R' v' m' Q' s ∧ Frm (Foot B R v) w w' ∧ ∀ k, Foot B R' v' k → Foot B R v k ∨ w.heap.size ≤ k from fun w' hb => ⟨R, v, m, Q, H.below hb, Frm.of_below hb, fun k hk => Or.inl hk⟩)
  clear H hm ea ee es
  go_enter Try.func79, Try.ntmps79
  go_wp2_with fail
  refine HM.out.mono ?_
  rintro e w1 ⟨rfl, hb⟩
  have HE := Lib.hid (HF.out _ hb)
  clear hb
  go_wp2_with fail
  go_ret2
  exact ⟨rfl, HE.out⟩
set_option maxHeartbeats 4000000 in
set_option maxRecDepth 100000 in
theorem make_same (x lo : Int) (l1 : -9223372036854775808 ≤ lo) (l2 : lo ≤ 9223372036854775807) (H : Tk w B R v m Q s) (hm : mayB s x lo lo = true) : Calls Try.prog 79 #[.pointer (some ⟨B, 0, none⟩), .int .i64 x, .int .i64 lo, .int .i64 lo] w (MakePost B R v s x lo lo w) := by
  have ea : mkA s x lo lo = lo := by unfold mkA; rw [hm, if_pos rfl, if_pos rfl]
  have ee : mkE s x lo lo = 0 := by unfold mkE; rw [hm, if_pos rfl, if_pos rfl]
  have es : mkS s x lo lo = s := by unfold mkS; rw [hm, if_pos rfl, if_pos rfl]
  unfold MakePost
  rw [ea, ee, es]
  have HM := Lib.hid (may_ x lo lo l1 l2 l1 l2 H.tb)
  rw [hm] at HM
  have HF := Lib.hid (show ∀ w', Below w.heap.size w w' → ∃ R' v' m' Q', Tk w' B R' v' m' Q' s ∧ Frm (Foot B R v) w w' ∧ ∀ k, Foot B R' v' k → Foot B R v k ∨ w.heap.size ≤ k from fun w' hb => ⟨R, v, m, Q, H.below hb, Frm.of_below hb, fun k hk => Or.inl hk⟩)
  clear H hm ea ee es
  go_enter Try.func79, Try.ntmps79
  go_wp2_with fail
  refine HM.out.mono ?_
  rintro e w1 ⟨rfl, hb⟩
  have HE := Lib.hid (HF.out _ hb)
  clear hb
  go_wp2_with fail
  go_ret2
  exact ⟨rfl, HE.out⟩
theorem found_pos (H : Tk w B R v m Q s) {x : Nd} {p : Nat} (hf : NdH.Found (hm m) m Q s.L s.L.length x p) : p < m ∧ ((∃ i, posN s.L x = some i ∧ Q p = i + 2 ∧ i < s.L.length) ∨ (posN s.L x = none ∧ Q p = 0 ∧ x ∉ s.L ∧ ∃ d, d < m ∧ p = (hm m x + d) % m ∧ ∀ t, t < d → Q ((hm m x + t) % m) ≠ 0)) := by
  refine ⟨hf.1, ?_⟩
  rcases hf.2 with ⟨n, hn, _, hq, rfl⟩ | ⟨hq, hno, hd⟩
  · exact Or.inl ⟨n, posN_at H.tb.wf.nodup hn, hq, hn⟩
  · rw [List.take_of_length_le (Nat.le_refl _)] at hno
    refine Or.inr ⟨?_, hq, hno, hd⟩
    cases hp : posN s.L x with
    | none => rfl
    | some i =>
      obtain ⟨h1, h2⟩ := posN_some hp
      exact absurd (h2 ▸ List.getElem_mem h1) hno
set_option maxHeartbeats 8000000 in
set_option maxRecDepth 100000 in
theorem make_new (x lo hi : Int) (l1 : -9223372036854775808 ≤ lo) (l2 : lo ≤ 9223372036854775807) (h1 : -9223372036854775808 ≤ hi) (h2 : hi ≤ 9223372036854775807) (hl : s.L.length < 119900) (H : Tk w B R v m Q s) (hm : mayB s x lo hi = true) (hne : lo ≠ hi) : Calls Try.prog 79 #[.pointer (some ⟨B, 0, none⟩), .int .i64 x, .int .i64 lo, .int .i64 hi] w (MakePost B R v s x lo hi w) := by
  have HM := Lib.hid (may_ x lo hi l1 l2 h1 h2 H.tb)
  rw [hm] at HM
  have ea : mkA s x lo hi = match posN s.L ⟨x, lo, hi⟩ with
    | some i => (i : Int) + 2
    | none => if s.budget ≤ s.L.length then 0 else (s.L.length : Int) + 2 := by unfold mkA; rw [hm, if_pos rfl, if_neg hne]; cases posN s.L ⟨x, lo, hi⟩ <;> rfl
  have ee : mkE s x lo hi = match posN s.L ⟨x, lo, hi⟩ with
    | some i => 0
    | none => if s.budget ≤ s.L.length then 8 else 0 := by unfold mkE; rw [hm, if_pos rfl, if_neg hne]; cases posN s.L ⟨x, lo, hi⟩ <;> rfl
  have es : mkS s x lo hi = match posN s.L ⟨x, lo, hi⟩ with
    | some i => s
    | none => if s.budget ≤ s.L.length then { s with spent := true } else { s with L := s.L ++ [⟨x, lo, hi⟩] } := by unfold mkS; rw [hm, if_pos rfl, if_neg hne]; cases posN s.L ⟨x, lo, hi⟩ <;> rfl
  have hwf : ⟨x, lo, hi⟩ ∉ s.L → WF { s with L := s.L ++ [⟨x, lo, hi⟩] } := fun hno => H.tb.wf.add hm hne hno
  have HT := Lib.hid H
  have heq : (lo == hi) = false := by simpa using hne
  unfold MakePost
  have hbl := H.tb.bl
  have hbud := H.tb.bud
  clear H hm
  go_enter Try.func79, Try.ntmps79
  go_wp2_with fail
  refine HM.out.mono ?_
  rintro e w1 ⟨rfl, hb⟩
  have HB1 := Lib.hid hb
  have hbx := (Below.refl w1.heap.size w1).alloc (Nat.le_refl _) (.cells #[.int .i64 x, .int .i64 lo, .int .i64 hi] 89)
  have hx0 := heap_alloc_new w1 (.cells #[.int .i64 x, .int .i64 lo, .int .i64 hi] 89)
  have hsz : w1.heap.size < (w1.alloc (.cells #[.int .i64 x, .int .i64 lo, .int .i64 hi] 89)).heap.size := by simp
  have HB2 := Lib.hid (hb.trans (hbx.mono hb.size))
  clear hb hbx
  go_wp2_with fail
  generalize w1.alloc (.cells #[.int .i64 x, .int .i64 lo, .int .i64 hi] 89) = w2 at *
  have HFi := Lib.hid (find_ x lo hi (HT.out.tb.below HB2.out) (by have := HT.out.tb.lm; exact this))
  refine HFi.out.mono ?_
  rintro e w3 ⟨p, rfl, hfo, hb3⟩
  obtain ⟨hpm, hpos⟩ := found_pos HT.out hfo
  have hB3 := HB2.out.trans (hb3.mono HB2.out.size)
  have HB3 := Lib.hid hB3
  have H3 := HT.out.below hB3
  have HT3 := Lib.hid H3
  obtain ⟨c0, c1, c2, c3, c4⟩ := H3.tb.b0
  obtain ⟨f1, f2⟩ := Tb.pl_cell H3.tb p hpm
  have hm1024 : m ≤ 262144 := by
    obtain ⟨k, hk, e⟩ := H3.tb.pow
    have := (pow10 hk).2
    omega
  have p0 : (0 : Int) ≤ p := by omega
  have p1 : (p : Int) < m := by omega
  have z0 : ∀ o, w3.cell? ⟨w1.heap.size, o, none⟩ = (#[.int .i64 x, .int .i64 lo, .int .i64 hi] : Array Value)[o]? := fun o => (hb3.cell (p := ⟨w1.heap.size, o, none⟩) hsz).trans (Lib.cell_of_heap hx0 o)
  have hb3s := hB3.size
  clear hfo hb3 hB3 H3 hx0 hsz
  rcases hpos with ⟨i, hpi, hqi, hil⟩ | ⟨hpi, hqi, hno, hd⟩
  · rw [hpi] at ea ee es
    simp only at ea ee es
    rw [hqi] at f1
    have f1' : w3.cell? ⟨R, p, none⟩ = some (.int .i64 ((i : Int) + 2)) := f1
    have n2 : (((i : Int) + 2) != 0) = true := by simp; omega
    have HE := Lib.hid (show ∃ R' v' m' Q', Tk w3 B R' v' m' Q' s ∧ Frm (Foot B R v) w w3 ∧ ∀ k, Foot B R' v' k → Foot B R v k ∨ w.heap.size ≤ k from ⟨R, v, m, Q, HT3.out, Frm.of_below HB3.out, fun k hk => Or.inl hk⟩)
    have HEa := Lib.hid ea
    have HEe := Lib.hid ee
    have HEs := Lib.hid es
    clear f1 hpi hqi ea ee es c0 c1 c2 c3 hwf hne
    go_wp2_with fail
    go_ret2
    refine ⟨by rw [HEa.out, HEe.out]; rfl, ?_⟩
    rw [HEs.out]
    exact HE.out
  · rw [hpi] at ea ee es
    simp only at ea ee es
    rw [hqi] at f1
    have f1' : w3.cell? ⟨R, p, none⟩ = some (.int .i64 0) := f1
    have HL := Lib.hid (fun q => len_ (HT3.out.tb.drewN q))
    have HEa := Lib.hid ea
    have HEe := Lib.hid ee
    have HEs := Lib.hid es
    have hx6 := hwf hno
    have hfr := Tb.free HT3.out.tb 2
    obtain ⟨ln, hln⟩ : ∃ ln, s.L.length = ln := ⟨_, rfl⟩
    have HLn := Lib.hid hln
    have HAd := Lib.hid (fun q => add_ x lo hi p (HT3.out.tb.drewN q) hx6 hl HT3.out.room HT3.out.m16 hpm hqi hd hno)
    unfold AddPost at HAd
    rw [hln] at HL HEa HEe HEs HAd hl
    have hrl := HT3.out.tb.rl
    clear f1 hpi hqi ea ee es c0 c3 hwf hne hno hd hx6 hln
    by_cases hbd : s.budget ≤ ln
    · have z1 : decide ((s.budget : Int) ≤ ln) = true := by simp; omega
      have z2 : decide (s.budget ≤ ln) = true := by simp; omega
      rw [if_pos hbd] at HEa HEe HEs
      have HSp := Lib.hid (show ∀ q, ∃ R' v' m' Q', Tk ((w3.drewN q).setCell ⟨B, 2, none⟩ (.bool true)) B R' v' m' Q' { s with spent := true } ∧ Frm (Foot B R v) w ((w3.drewN q).setCell ⟨B, 2, none⟩ (.bool true)) ∧ ∀ k, Foot B R' v' k → Foot B R v k ∨ w.heap.size ≤ k from fun q => ⟨R, v, m, Q, Tk.spend ⟨HT3.out.tb.drewN q, HT3.out.room, HT3.out.m16⟩, (Frm.of_below (F := Foot B R v) (below_drewN HB3.out q)).trans (Frm.of_grown (F := fun k => k = B) (row := some B) ⟨rfl, rfl, rfl, by simp [World.setCell], fun k hk hne => Below.heap_setCell _ _ _ _ (fun e => hne (by rw [e]))⟩ (fun k hk => (Option.some.inj hk).symm)) (fun k hk => Or.inl (Or.inl hk)), fun k hk => Or.inl hk⟩)
      clear hbd
      go_wp2_with fail
      go_quiet ((with_reducible exact Calls.quiet_of_same ((HL.out _).mono fun e w' h => ⟨h.1, h.2.symm⟩)))
      go_wp2_with fail
      go_ret2
      refine ⟨by rw [HEa.out, HEe.out]; rfl, ?_⟩
      rw [HEs.out]
      exact HSp.out _
    · have z1 : decide ((s.budget : Int) ≤ ln) = false := by simp; omega
      have z2 : decide (s.budget ≤ ln) = false := by simp; omega
      rw [if_neg hbd] at HEa HEe HEs
      clear hbd
      go_wp2_with fail
      go_quiet ((with_reducible exact Calls.quiet_of_same ((HL.out _).mono fun e w' h => ⟨h.1, h.2.symm⟩)))
      go_wp2_with fail
      refine (HAd.out nq).mono ?_
      rintro e w4 ⟨rfl, R4, v4, m4, Q4, hT4, hm4, hF4, hk4⟩
      have HE4 := Lib.hid (show ∃ R' v' m' Q', Tk w4 B R' v' m' Q' { s with L := s.L ++ [⟨x, lo, hi⟩] } ∧ Frm (Foot B R v) w w4 ∧ ∀ k, Foot B R' v' k → Foot B R v k ∨ w.heap.size ≤ k from by
        have e : ({ s with L := s.L ++ [⟨x, lo, hi⟩] } : St).L.length = ln + 1 := by show (s.L ++ [(⟨x, lo, hi⟩ : Nd)]).length = ln + 1; rw [List.length_append, HLn.out]; rfl
        refine ⟨R4, v4, m4, Q4, ⟨by rw [e]; exact hT4, by rw [e]; exact hm4.1, hm4.2⟩, (Frm.of_below (F := Foot B R v) (below_drewN HB3.out nq)).trans hF4 (fun k hk => Or.inl hk), fun k hk => ?_⟩
        rcases hk4 k hk with h | h
        · exact Or.inl h
        · have h' : w3.heap.size ≤ k := h
          exact Or.inr (by omega))
      clear hT4 hF4 hk4
      go_wp2_with fail
      go_ret2
      refine ⟨by rw [HEa.out, HEe.out]; congr 3; simp; omega, ?_⟩
      rw [HEs.out]
      exact HE4.out
theorem make_ (x lo hi : Int) (l1 : -9223372036854775808 ≤ lo) (l2 : lo ≤ 9223372036854775807) (h1 : -9223372036854775808 ≤ hi) (h2 : hi ≤ 9223372036854775807) (hl : s.L.length < 119900) (H : Tk w B R v m Q s) : Calls Try.prog 79 #[.pointer (some ⟨B, 0, none⟩), .int .i64 x, .int .i64 lo, .int .i64 hi] w (MakePost B R v s x lo hi w) := by
  cases hm : mayB s x lo hi with
  | false => exact make_no x lo hi l1 l2 h1 h2 H hm
  | true =>
    by_cases hne : lo = hi
    · subst hne
      exact make_same x lo l1 l2 H hm
    · exact make_new x lo hi l1 l2 h1 h2 hl H hm hne
end
end Go.Proofs.Ytnkkmppmfjekeaa.NdG
