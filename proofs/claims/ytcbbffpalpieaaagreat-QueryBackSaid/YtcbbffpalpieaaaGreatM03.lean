/- A table's texts by place, all of them, and with more. -/
import Derived.Test.YtcbbffpalpieaaaGreatM02
import Derived.Lib.AppendZeros
import Derived.Test.YtcbbffpalpieaaaGreatM01
import Derived.WalkLawsBesides
import Derived.WalkSpells
import Derived.Test.YtcbbffpalpieaaaGreatShelf
import Derived.Deep.QuietTactic
import Derived.BigQuiet
namespace Go.Proofs.YtcbbffpalpieaaaGreat.Tab7
set_option linter.unusedVariables false
set_option linter.unusedSimpArgs false
open Go.RowKit Go.Sort Go.Proofs Go.Proofs.YtcbbffpalpieaaaGreat.Plain Go.Proofs.YtcbbffpalpieaaaGreat.Tab1 Go.Proofs.YtcbbffpalpieaaaGreat.Tab2 Go.Proofs.YtcbbffpalpieaaaGreat.Tab3 Go.Proofs.YtcbbffpalpieaaaGreat.Tab4 Go.Proofs.YtcbbffpalpieaaaGreat.Tab5 Go.Proofs.YtcbbffpalpieaaaGreat.Tab6 Go.Proofs.YtcbbffpalpieaaaGreat.TabP
section
variable {P : Program} (w : World)
theorem run_append_of_nil (base : Nat) (t ty e : TypeId) (i : TypeInfo) (size : Nat) (ht : P.underlying t = some (.slice e)) (hi : P.info? e = some i)
    (v : Value) (n : Nat) (xs : List Value) (hown : w.ownsRow base e size v n xs) (c : Nat) : (Builtin.append_ #[t, t] ty #[v, .slice none 0 c]).run P w = .ok v w := by
  rcases hown.2 with ⟨rfl, rfl⟩ | ⟨g, cap, cur, rfl, _, _, hnc, _⟩
  · simp [Builtin.append_, run_underlying ht, sizeOf, typeInfo, hi, Builtin.lenOf, Builtin.firstCells]
  · simp [Builtin.append_, run_underlying ht, sizeOf, typeInfo, hi, Builtin.lenOf, Builtin.firstCells, hnc, storeCells]
theorem add_off (b off j : Nat) : ((⟨b, off, none⟩ : Addr).add j) = ⟨b, off + j, none⟩ := by
  unfold Addr.add
  split
  · rename_i h; subst h; rfl
  · simp
/-- append of a slice of texts onto a row of the call's own. -/
theorem run_append_src (base : Nat) (t ty e : TypeId) (i : TypeInfo) (z : Value) (ht : P.underlying t = some (.slice e)) (hi : P.info? e = some i) (hz : i.zero = some z)
    (hsize : i.size = 1) (hby : i.bytes = 16) (hzs : z.cells.size = 1)
    (v : Value) (L : List Str) (hown : w.ownsRow base e 1 v L.length (L.map encStr)) (A : Option Addr) (c : Nat) (T : List Str) (hr : SRow w A T)
    (hbig : L.length + T.length ≤ 1000000) (hbase : base ≤ w.heap.size) :
    ∃ v' w', (Builtin.append_ #[t, t] ty #[v, .slice A T.length c]).run P w = .ok v' w' ∧ w'.ownsRow base e 1 v' (L ++ T).length ((L ++ T).map encStr) ∧ w.grownBy w' v.ownBlock := by
  rcases A with _ | ad
  · have hm : T = [] := by
      rcases Nat.eq_zero_or_pos T.length with h0 | h0
      · exact List.eq_nil_of_length_eq_zero h0
      · obtain ⟨_, _, h, _⟩ := hr h0
        cases h
    subst hm
    exact ⟨v, w, run_append_of_nil w base t ty e i 1 ht hi v _ _ hown c, by simpa using hown, World.grownBy.refl w _⟩
  · have hcells : ∀ j u, (T.map encStr)[j]? = some u → w.cell? (ad.add j) = some u := by
      intro j u hu
      have hj : j < T.length := by
        rcases Nat.lt_or_ge j T.length with h | h
        · exact h
        · rw [List.getElem?_eq_none (by simpa using h)] at hu; cases hu
      obtain ⟨b, off, h, _, hc⟩ := hr (by omega)
      injection h with h
      subst h
      rw [add_off, hc j hj, ← hu, List.getElem?_map, List.getElem?_eq_getElem hj]
      rfl
    obtain ⟨v', w', hrun, h2, h3, _⟩ := run_append_own (P := P) w base t ty e i z 1 16 ht hi hz hsize hby hzs (by decide) v L.length (L.map encStr) hown ad T.length c (T.map encStr) (by simp) hcells
      (fun u hu => by
        obtain ⟨x, _, rfl⟩ := List.mem_map.1 hu
        rfl) (by unfold maxLen; omega) (by omega) hbase
    exact ⟨v', w', hrun, by rw [List.length_append, List.map_append]; exact h2, h3⟩
theorem wpList_append_src {ops : Array Oper} {rest : List Oper} {o : Oper} {a : Act} {Q : Exit → Act → World → Prop} (hgd : o.guard = none) (s x : Operand) (t : TypeId)
    (ho : o.op = .call { callee := .builtin .append, args := #[s, x], argTypes := #[t, t] })
    (base : Nat) (e : TypeId) (i : TypeInfo) (z : Value) (ht : P.underlying t = some (.slice e)) (hi : P.info? e = some i) (hz : i.zero = some z)
    (hsize : i.size = 1) (hby : i.bytes = 16) (hzs : z.cells.size = 1)
    (v : Value) (L : List Str) (hs : a.eval s = v) (hown : w.ownsRow base e 1 v L.length (L.map encStr)) (A : Option Addr) (c : Nat) (T : List Str) (hx : a.eval x = .slice A T.length c) (hr : SRow w A T)
    (hbig : L.length + T.length ≤ 1000000) (hbase : base ≤ w.heap.size)
    (h : ∀ v' w', w'.ownsRow base e 1 v' (L ++ T).length ((L ++ T).map encStr) → w.grownBy w' v.ownBlock → wpList P ops Q rest (a.put o.dst v') w') : wpList P ops Q (o :: rest) a w := by
  obtain ⟨v', w', hrun, h2, h3⟩ := run_append_src (P := P) w base t o.type e i z ht hi hz hsize hby hzs v L hown A c T hr hbig hbase
  exact Lib.wpList_append_run w hgd s x t t ho v _ hs hx v' w' hrun (h v' w' h2 h3)
end
theorem cloneC (A : Option Addr) (c : Nat) (T : List Str) (w : World) (hn : T.length ≤ 1000000) (h : SRow w A T) : Calls Tryz.prog 37 #[.slice A T.length c] w (RowPost T w) := by
  rcases A with _ | ad
  · have : T = [] := by
      cases T with
      | nil => rfl
      | cons a l => obtain ⟨_, _, e, _⟩ := h (by simp); cases e
    subst this
    refine (Tryz.slices_Clone_string_nil _ _ _).mono ?_
    rintro e w' ⟨rfl, rfl⟩
    exact ⟨_, rfl, World.ownsRow_nil _ _ _ _, Below.refl _ _⟩
  · by_cases h0 : 0 < T.length
    · obtain ⟨b, off, e, _, hc⟩ := h h0
      injection e with e
      subst e
      have := Tryz.slices_Clone_string b off T.length c (T.map enB) w (by simp) (by omega) (fun j hj => by
        rw [List.length_map] at hj
        rw [hc j hj, List.getD_eq_getElem?_getD, List.getElem?_map, List.getElem?_eq_getElem hj]; rfl)
      rw [List.take_of_length_le (by simp), map_enB] at this
      refine this.mono ?_
      rintro e w' ⟨v, rfl, h1, _, h2⟩
      exact ⟨v, rfl, h1, h2⟩
    · have : T = [] := List.eq_nil_of_length_eq_zero (by omega)
      subst this
      refine (Tryz.slices_Clone_string_zero ad c w).mono ?_
      rintro e w' ⟨v, rfl, h1, _, h2⟩
      exact ⟨v, rfl, h1, h2⟩
theorem all (t : Nat) (A : Option Addr) (T : List Str) (c : Nat) (w : World) (h : w.cell? ⟨t, 0, none⟩ = some (.slice A T.length c)) (hT : T.length ≤ 1000000) (hr : SRow w A T) :
    Calls Tryz.prog 57 #[.pointer (some ⟨t, 0, none⟩)] w (RowPost T w) := by
  go_enter Tryz.func57, Tryz.ntmps57
  go_wp2_with (first | (go_at_call 79; refine (kept _ _ _ h).mono ?_; rintro e w' ⟨rfl, rfl⟩) | (go_at_call 37; refine (cloneC A c T _ hT hr).mono ?_; rintro e w' ⟨v, rfl, h1, h2⟩))
  go_ret
  exact ⟨_, rfl, h1, h2⟩
theorem all_nil (w : World) : Calls Tryz.prog 57 #[.pointer none] w fun e w' => e = .returned (.slice none 0 0) ∧ w = w' := by
  go_enter Tryz.func57, Tryz.ntmps57
  go_wp2_with (first | (go_at_call 79; refine (kept_nil _).mono ?_; rintro e w' ⟨rfl, rfl⟩) | (go_at_call 37; refine (Tryz.slices_Clone_string_nil _ _ _).mono ?_; rintro e w' ⟨rfl, rfl⟩))
  go_ret
  exact ⟨rfl, rfl⟩
set_option maxRecDepth 100000 in
theorem grow (n : Nat) (w : World) (hn : n ≤ 1000000) : Calls Tryz.prog 60 #[.slice none 0 0, .int .i64 n] w (RowPost [] w) := by
  obtain ⟨i0, hi, hz0, hz1, hz2⟩ := info_parts infoStr
  by_cases h0 : 0 < n
  · have hz : 0 < i0.size := by rw [hz1]; omega
    have hby : n * i0.bytes ≤ 281474976710656 := by rw [hz2]; omega
    have hrun := Lib.run_append_nil_zeros (P := Tryz.prog) w 24 3 24 9 i0 (.string ⟨#[]⟩) .i64 .i64 Tryz.underlying24 Tryz.underlying3 hi hz0 n h0 hz (by omega) hby
    have hg := grownCap_ge w n 0 9
    have hm := grownCap_le_maxLen w n 0 9 (by unfold maxLen; omega)
    have hm' := hm
    have hsz : (Builtin.zeroCells (Value.string ⟨#[]⟩).cells n ++ Builtin.zeroCells (Value.string ⟨#[]⟩).cells (grownCap w n 0 9 - n)).size = grownCap w n 0 9 * 1 := by
      rw [Array.size_append, size_zeroCells, size_zeroCells]
      show n * 1 + (grownCap w n 0 9 - n) * 1 = _
      omega
    generalize Builtin.zeroCells (Value.string ⟨#[]⟩).cells n ++ Builtin.zeroCells (Value.string ⟨#[]⟩).cells (grownCap w n 0 9 - n) = cells at *
    generalize grownCap w n 0 9 = gc at *
    have Hsz := Lib.hid hsz
    have Hm := Lib.hid hm'
    have Hrun := Lib.hid hrun
    clear hsz hz hby hm' hrun
    unfold maxLen at hm
    go_enter Tryz.func60, Tryz.ntmps60
    go_wp2_with (refine Lib.wpList_append_run (P := Tryz.prog) (o := ⟨some 22, _, _, _, _, _⟩) w rfl (.tmp 20) (.tmp 21) 24 3 rfl (.slice none 0 0) (.int .i64 n) ?hs ?hx (.slice (some ⟨w.heap.size, 0, none⟩) n gc) (w.drew.alloc (.cells cells 9)) (by exact Hrun.out) ?_)
    case hs => rfl
    case hx => rfl
    go_wp2
    go_ret
    exact ⟨_, rfl, World.ownsRow_made w.drew cells gc (Nat.le_refl _) Hm.out Hsz.out, (Below.refl _ _).drew.alloc (Nat.le_refl _) _⟩
  · have : n = 0 := by omega
    subst this
    go_enter Tryz.func60, Tryz.ntmps60
    go_wp2
    go_ret
    exact ⟨_, rfl, World.ownsRow_nil _ _ _ _, Below.refl _ _⟩
set_option maxHeartbeats 800000 in
set_option maxRecDepth 100000 in
theorem concat (b : Nat) (A1 A2 : Option Addr) (c1 c2 : Nat) (T1 T2 : List Str) (w : World) (h1 : T1.length ≤ 100000) (h2 : T2.length ≤ 100000) (hb : b < w.heap.size)
    (hc1 : w.cell? ⟨b, 0, none⟩ = some (.slice A1 T1.length c1)) (hc2 : w.cell? ⟨b, 1, none⟩ = some (.slice A2 T2.length c2)) (hr1 : SRow w A1 T1) (hr2 : SRow w A2 T2) :
    Calls Tryz.prog 31 #[.slice (some ⟨b, 0, none⟩) 2 2] w (RowPost (T1 ++ T2) w) := by
  obtain ⟨i0, hi, hz0, hz1, hz2⟩ := info_parts infoStr
  have HR1 := Lib.hid hr1
  have HR2 := Lib.hid hr2
  clear hr1 hr2
  go_enter Tryz.func31, Tryz.ntmps31
  go_wp2_with fail
  go_loop [3, 11] (fun s i => (s = .int .i64 0 ∧ i = .int .i64 0) ∨ (s = .int .i64 T1.length ∧ i = .int .i64 1) ∨ (s = .int .i64 ((T1.length + T2.length : Nat) : Int) ∧ i = .int .i64 2)) (fun _ i => 2 - (intOf i).toNat)
  case atStart => exact .inl ⟨rfl, rfl⟩
  case round =>
    rcases hrel with ⟨rfl, rfl⟩ | ⟨rfl, rfl⟩ | ⟨rfl, rfl⟩
    · go_wp2_with fail
      go_round
      case rel => exact .inr (.inl ⟨by simp, rfl⟩)
      case measure => simp [intOf]
    · go_wp2_with fail
      go_round
      case rel => exact .inr (.inr ⟨by simp, rfl⟩)
      case measure => simp [intOf]
    · go_wp2_with fail
      rw [← Int.natCast_add]
      refine (grow (T1.length + T2.length) w (by omega)).mono ?_
      rintro e w1 ⟨v1, rfl, hown1, hbel1⟩
      go_wp2_with fail
      go_loopw [6, 27] (fun v i wr => Below w.heap.size w wr ∧ ((wr.ownsRow w.heap.size 9 1 v ([] : List Str).length (([] : List Str).map encStr) ∧ i = .int .i64 0) ∨ (wr.ownsRow w.heap.size 9 1 v T1.length (T1.map encStr) ∧ i = .int .i64 1) ∨ (wr.ownsRow w.heap.size 9 1 v (T1 ++ T2).length ((T1 ++ T2).map encStr) ∧ i = .int .i64 2))) (fun _ i _ => 2 - (intOf i).toNat)
      case atStart => exact ⟨hbel1, .inl ⟨hown1, rfl⟩⟩
      case round =>
        obtain ⟨hbel, ⟨hown, rfl⟩ | ⟨hown, rfl⟩ | ⟨hown, rfl⟩⟩ := hrel
        · have d1 := (hbel.cell (p := ⟨b, 0, none⟩) hb).trans hc1
          have hr := HR1.out.keep hbel
          clear hown1 hbel1
          go_wp2_with (at_builtin; refine wpList_append_src _ rfl _ _ 24 rfl w.heap.size 9 i0 (.string ⟨#[]⟩) Tryz.underlying24 hi hz0 hz1 hz2 rfl _ [] rfl hown A1 c1 T1 rfl hr (by first | omega | (simp; omega)) hbel.size ?_)
          intro v2 w2 hown2 hgrow
          have hbel2 := hbel.grown hgrow hbel.size (fun k hk => (hown.lt k hk).1)
          clear hown hbel hgrow
          go_wp2_with fail
          go_roundw
          case rel => exact ⟨hbel2, .inr (.inl ⟨hown2, rfl⟩)⟩
          case measure => simp [intOf]
        · have d1 := (hbel.cell (p := ⟨b, 1, none⟩) hb).trans hc2
          have hr := HR2.out.keep hbel
          clear hown1 hbel1
          go_wp2_with (at_builtin; refine wpList_append_src _ rfl _ _ 24 rfl w.heap.size 9 i0 (.string ⟨#[]⟩) Tryz.underlying24 hi hz0 hz1 hz2 rfl _ T1 rfl hown A2 c2 T2 rfl hr (by first | omega | (simp; omega)) hbel.size ?_)
          intro v2 w2 hown2 hgrow
          have hbel2 := hbel.grown hgrow hbel.size (fun k hk => (hown.lt k hk).1)
          clear hown hbel hgrow
          go_wp2_with fail
          go_roundw
          case rel => exact ⟨hbel2, .inr (.inr ⟨by rw [List.length_append, List.map_append]; exact hown2, rfl⟩)⟩
          case measure => simp [intOf]
        · clear hown1 hbel1
          go_wp2_with fail
          go_ret
          exact ⟨_, rfl, hown, hbel⟩
abbrev NewPost' := NewPost
end Go.Proofs.YtcbbffpalpieaaaGreat.Tab7
/- Plain mathematics of parsing, of no program: which shape a line's tokens have, and what statement they are. -/
namespace Go.Proofs.YtcbbffpalpieaaaGreat.SynQ
set_option linter.unusedVariables false
set_option linter.unusedSimpArgs false
open Go.RowKit Go.Proofs.YtcbbffpalpieaaaGreat.Plain Go.Proofs.YtcbbffpalpieaaaGreat.SynP
/-- How many numbers two rows begin with alike. -/
def agreeN : List Int → List Int → Nat
  | a :: l, b :: s => if a = b then agreeN l s + 1 else 0
  | _, _ => 0
def kindsOf (L : List Tk) : List Int := L.map Tk.kind
theorem kinds_len (L : List Tk) : (kindsOf L).length = L.length := List.length_map ..
theorem agree_step {a b : List Int} {k : Nat} (h1 : k < a.length) (h2 : k < b.length) (h : a[k] = b[k]) : agreeN (a.drop k) (b.drop k) = agreeN (a.drop (k + 1)) (b.drop (k + 1)) + 1 := by
  rw [List.drop_eq_getElem_cons h1, List.drop_eq_getElem_cons h2]; simp [agreeN, h]
theorem agree_ne {a b : List Int} {k : Nat} (h1 : k < a.length) (h2 : k < b.length) (h : a[k] ≠ b[k]) : agreeN (a.drop k) (b.drop k) = 0 := by
  rw [List.drop_eq_getElem_cons h1, List.drop_eq_getElem_cons h2]; simp [agreeN, h]
theorem agree_end1 {a b : List Int} {k : Nat} (h : a.length ≤ k) : agreeN (a.drop k) (b.drop k) = 0 := by
  rw [List.drop_of_length_le h]; cases b.drop k <;> rfl
theorem agree_end2 {a b : List Int} {k : Nat} (h : b.length ≤ k) : agreeN (a.drop k) (b.drop k) = 0 := by
  rw [List.drop_of_length_le h]; cases a.drop k <;> rfl
theorem agree_le1 : ∀ (a b : List Int), agreeN a b ≤ a.length
  | [], _ => by simp [agreeN]
  | _ :: _, [] => by simp [agreeN]
  | a :: l, b :: s => by
    unfold agreeN
    split
    · have := agree_le1 l s; simp; omega
    · simp
theorem agree_le2 : ∀ (a b : List Int), agreeN a b ≤ b.length
  | [], _ => by simp [agreeN]
  | _ :: _, [] => by simp [agreeN]
  | a :: l, b :: s => by
    unfold agreeN
    split
    · have := agree_le2 l s; simp; omega
    · simp
theorem agree_all : ∀ (a b : List Int), agreeN a b = a.length → agreeN a b = b.length → a = b
  | [], [], _, _ => rfl
  | [], _ :: _, _, h => by simp [agreeN] at h
  | _ :: _, [], h, _ => by simp [agreeN] at h
  | a :: l, b :: s, h1, h2 => by
    unfold agreeN at h1 h2
    split at h1
    · rename_i e
      subst e
      simp at h1 h2
      rw [agree_all l s h1 h2]
    · simp at h1
theorem agree_self : ∀ a : List Int, agreeN a a = a.length
  | [] => rfl
  | a :: l => by unfold agreeN; rw [if_pos rfl, agree_self l]; rfl
/-- The kinds of the tokens of a statement's line. -/
def shapeK : Nat → List Int
  | 1 => [1, 3, 2, 4, 1]
  | 2 => [1, 3, 2, 4, 1, 3, 2]
  | 3 => [1, 3, 2, 4, 1, 3, 2, 3, 2]
  | 4 => [1, 3, 2, 4, 1, 3, 2, 5, 1, 3, 2]
  | _ => []
def textAt (L : List Tk) (k : Nat) : ByteArray := (L[k]?.map Tk.text).getD noText
/-- The statement of a kind whose line has these tokens, ahead of its normal form. -/
def stmtOf (k : Nat) (L : List Tk) : St :=
  ⟨k, ⟨textAt L 0, textAt L 2⟩, if k = 1 then textAt L 4 else noText, if k = 1 then zeroR else ⟨textAt L 4, textAt L 6⟩, if k = 4 then ⟨textAt L 8, textAt L 10⟩ else zeroR, if k = 3 then textAt L 8 else noText⟩
/-- The place behind the last token. -/
def behindOf (L : List Tk) : Nat := match L.getLast? with
  | none => 1
  | some t => t.col + t.text.size
/-- How many tokens one of the first shapes begins with like these. -/
def bestOf (L : List Tk) : Nat → Nat
  | 0 => 0
  | k + 1 => max (bestOf L k) (agreeN (kindsOf L) (shapeK (k + 1)))
def colAt (L : List Tk) (k : Nat) : Nat := (L[k]?.map Tk.col).getD 0
theorem textAt_eq {L : List Tk} {k : Nat} (h : k < L.length) : textAt L k = L[k].text := by unfold textAt; rw [List.getElem?_eq_getElem h]; rfl
theorem colAt_eq {L : List Tk} {k : Nat} (h : k < L.length) : colAt L k = L[k].col := by unfold colAt; rw [List.getElem?_eq_getElem h]; rfl
/-- Which statement tokens are; else the place, and what is wrong. -/
def parseL (L : List Tk) : St × Int × Int :=
  if kindsOf L = shapeK 1 then ((stmtOf 1 L).normal, 0, 0)
  else if kindsOf L = shapeK 2 then ((stmtOf 2 L).normal, 0, 0)
  else if kindsOf L = shapeK 3 then ((stmtOf 3 L).normal, 0, 0)
  else if kindsOf L = shapeK 4 then ((stmtOf 4 L).normal, 0, 0)
  else if bestOf L 4 < L.length then (zeroS, colAt L (bestOf L 4), 2)
  else (zeroS, behindOf L, 3)
end Go.Proofs.YtcbbffpalpieaaaGreat.SynQ
/- The words of a line: inWord, wordSize. -/
namespace Go.Proofs.YtcbbffpalpieaaaGreat.Scan1
set_option linter.unusedVariables false
set_option linter.unusedSimpArgs false
open Go.RowKit Go.Proofs.YtcbbffpalpieaaaGreat.Plain Go.Proofs.YtcbbffpalpieaaaGreat.Leaf Go.Proofs.YtcbbffpalpieaaaGreat.Named
theorem dig_eq (b : UInt8) : ((decide (48 < b.toNat) || (48 : UInt8) == b) && (decide (b.toNat < 57) || b == 57)) = digB b.toNat := by
  rw [u8_eq, u8_eq]
  unfold digB
  rw [Bool.eq_iff_iff]
  have e1 : (48 : UInt8).toNat = 48 := rfl
  have e2 : (57 : UInt8).toNat = 57 := rfl
  simp only [e1, e2, Bool.and_eq_true, Bool.or_eq_true, decide_eq_true_iff]
  omega
theorem dig_no (b : UInt8) (h : ¬ (48 < b.toNat ∨ (48 : UInt8) = b)) : digB b.toNat = false := by
  rw [← dig_eq, u8_eq]
  have e1 : (48 : UInt8).toNat = 48 := rfl
  have : ¬ (48 = b.toNat) := fun e => h (.inr (UInt8.toNat_inj.1 (by rw [e1]; exact e)))
  rw [e1, decide_eq_false this, decide_eq_false (fun e => h (.inl e))]
  rfl
theorem inWord (c : ByteArray) (b : UInt8) (hb : c.data.toList = [b]) (w : World) : Calls Tryz.prog 99 #[.string c] w fun e w' => e = .returned (.bool (wordB b.toNat)) ∧ w = w' := by
  have hs : c.size ≤ maxLen := by
    rw [← toList_len, hb]; show 1 ≤ maxLen; decide
  have hcap : named capB c.data.toList = capB b.toNat := by rw [hb]; exact named_one_cap b
  have hsmall : named smallB c.data.toList = smallB b.toNat := by rw [hb]; exact named_one_small b
  have he : c.toList = [b] := by rw [Go.ByteArray.toList_eq, hb]
  have lo : Op.bytesLess [48] [b] = decide (48 < b.toNat) := by simp [Op.bytesLess, UInt8.lt_iff_toNat_lt]
  have hi : Op.bytesLess [b] [57] = decide (b.toNat < 57) := by simp [Op.bytesLess, UInt8.lt_iff_toNat_lt]
  clear hb
  cases h1 : capB b.toNat <;> cases h2 : smallB b.toNat
  all_goals
    have hw : Hid (wordB b.toNat = (capB b.toNat || smallB b.toNat || digB b.toNat)) := Lib.hid rfl
    go_enter Tryz.func99, Tryz.ntmps99
    go_wp2_with (first | (go_at_call 52; refine (isPrin _ _ hs).mono ?_; rintro e w' ⟨rfl, rfl⟩) | (go_at_call 53; refine (isName _ _ hs).mono ?_; rintro e w' ⟨rfl, rfl⟩))
    all_goals go_ret
    all_goals refine ⟨ret_bool ?_, rfl⟩
    all_goals rw [hw.out, h1, h2]
    all_goals first | rfl | exact dig_eq b | exact (dig_no b (by assumption)).symm
theorem one_byte (s : ByteArray) (k : Nat) (h : k < s.size) : (s.extract k (k + 1)).data.toList = [s[k]] := by
  rw [ByteArray.data_extract, Array.toList_extract, List.extract_eq_take_drop]
  rw [show k + 1 - k = 1 from by omega, drop_cons h]
  rfl
theorem wordSize (s : ByteArray) (w : World) (hs : s.size ≤ maxLen) : Calls Tryz.prog 84 #[.string s] w fun e w' => e = .returned (.int .i64 (wlen s 0)) ∧ w = w' := by
  unfold maxLen at hs
  go_enter Tryz.func84, Tryz.ntmps84
  go_wp2
  go_loop [3] (fun i => ∃ k : Nat, k ≤ s.size ∧ i = .int .i64 k ∧ Hid (wlen s 0 = wlen s k + k)) (fun i => s.size - (intOf i).toNat)
  case atStart => exact ⟨0, by omega, rfl, Lib.hid rfl⟩
  case round =>
    obtain ⟨k, hk, rfl, hrun⟩ := hrel
    by_cases hlt : k < s.size
    · cases hw : wordB s[k].toNat
      · have hfin : Hid (wlen s 0 = k) := Lib.hid (by rw [hrun.out, wlen_stop hlt hw]; omega)
        clear hrun
        go_wp2_with (go_at_call 99; refine (inWord _ _ (one_byte s k hlt) _).mono ?_; rintro e w' ⟨rfl, rfl⟩)
        go_ret
        exact ⟨ret_int (by rw [hfin.out]), rfl⟩
      · have hnext : Hid (wlen s 0 = wlen s (k + 1) + (k + 1)) := Lib.hid (by rw [hrun.out, wlen_succ hlt hw]; omega)
        clear hrun
        go_wp2_with (go_at_call 99; refine (inWord _ _ (one_byte s k hlt) _).mono ?_; rintro e w' ⟨rfl, rfl⟩)
        go_round
        case rel => exact ⟨k + 1, by omega, by go_num, hnext⟩
        case measure => simp [intOf]; omega
    · have hfin : Hid (wlen s 0 = k) := Lib.hid (by rw [hrun.out, wlen_end hlt]; omega)
      clear hrun
      go_wp2_with fail
      go_ret
      exact ⟨ret_int (by rw [hfin.out]), rfl⟩
end Go.Proofs.YtcbbffpalpieaaaGreat.Scan1
/- A line without its comment, in the program and in the document's answers; the first token of a line. -/
namespace Go.Proofs.YtcbbffpalpieaaaGreat.Scan2
set_option linter.unusedVariables false
set_option linter.unusedSimpArgs false
open Go.RowKit Go.Proofs.YtcbbffpalpieaaaGreat.Plain Go.Proofs.YtcbbffpalpieaaaGreat.Leaf Go.Proofs.YtcbbffpalpieaaaGreat.Named Go.Proofs.YtcbbffpalpieaaaGreat.Scan1
theorem indexByte_cases (l : List UInt8) (c : UInt8) : (Lib.indexByte l c = -1 ∧ l.takeWhile (fun x => x != c) = l) ∨ ∃ i : Nat, Lib.indexByte l c = i ∧ i < l.length ∧ l.takeWhile (fun x => x != c) = l.take i := by
  induction l with
  | nil => exact .inl ⟨rfl, rfl⟩
  | cons b l ih =>
    unfold Lib.indexByte
    rw [List.takeWhile_cons]
    by_cases h : b = c
    · subst h
      exact .inr ⟨0, by rw [if_pos (by simp)]; rfl, by simp, by simp⟩
    · have hb : (b == c) = false := by simpa using h
      have hn : (b != c) = true := by simpa using h
      rw [if_pos hn]
      simp only [hb, Bool.false_eq_true, if_false]
      rcases ih with ⟨h1, h2⟩ | ⟨i, h1, h2, h3⟩
      · left
        rw [h1, h2]
        simp
      · right
        refine ⟨i + 1, ?_, ?_, ?_⟩
        · rw [h1, if_neg (by simp)]; omega
        · simp; omega
        · rw [h3, List.take_succ_cons]
def CutPost (s : ByteArray) (w : World) (e : Ending) (w' : World) : Prop := (∃ x b, e = .returned (.tuple #[.string (bare s), .string x, .bool b])) ∧ ∃ n, w' = w.drewN n
theorem bare_all {s : ByteArray} (h : s.data.toList.takeWhile (fun x => x != 35) = s.data.toList) : bare s = s := by
  unfold bare
  rw [h]
theorem bare_take {s : ByteArray} {i : Nat} (h : s.data.toList.takeWhile (fun x => x != 35) = s.data.toList.take i) : bare s = s.extract 0 i := by
  unfold bare
  rw [h]
  apply ByteArray.ext
  rw [ByteArray.data_extract]
  apply Array.ext'
  simp
theorem cut35 (s : ByteArray) (w : World) (hs : s.size ≤ maxLen) : Calls Tryz.prog 98 #[.string s, .string ⟨#[35]⟩] w (CutPost s w) := by
  unfold maxLen at hs
  rcases indexByte_cases s.data.toList 35 with ⟨h1, h2⟩ | ⟨i, h1, h2, h3⟩
  · have hb := Lib.hid (bare_all h2)
    clear h2
    go_enter Tryz.func98, Tryz.ntmps98
    go_wp2_with (go_at_call 119; refine (Tryz.stringslite_Index_one _ _ _).mono ?_; rintro e w' ⟨rfl, rfl⟩)
    go_ret3
    exact ⟨⟨_, _, by rw [hb.out]; rfl⟩, 0, rfl⟩
  · have hb := Lib.hid (bare_take h3)
    rw [toList_len] at h2
    clear h3
    have e1 : decide ((0 : Int) ≤ i) = true := by simp
    go_enter Tryz.func98, Tryz.ntmps98
    go_wp2_with (go_at_call 119; refine (Tryz.stringslite_Index_one _ _ _).mono ?_; rintro e w' ⟨rfl, rfl⟩)
    go_quiet (fail)
    go_wp2
    go_ret3
    exact ⟨⟨_, _, by rw [hb.out]; rfl⟩, _, rfl⟩
theorem cutS35 (s : ByteArray) (w : World) (hs : s.size ≤ maxLen) : Calls Tryz.prog 83 #[.string s, .string ⟨#[35]⟩] w (CutPost s w) := by
  go_enter Tryz.func83, Tryz.ntmps83
  go_wp2_with (go_at_call 98; refine (cut35 _ _ hs).mono ?_; rintro e w' ⟨⟨x, b, rfl⟩, n, rfl⟩)
  go_ret3
  exact ⟨⟨_, _, rfl⟩, _, rfl⟩
theorem uncommented (s : ByteArray) (w : World) (hs : s.size ≤ maxLen) : Calls Tryz.prog 64 #[.string s] w fun e w' => e = .returned (.string (bare s)) ∧ ∃ n, w' = w.drewN n := by
  go_enter Tryz.func64, Tryz.ntmps64
  go_wp2_with (go_at_call 83; refine (cutS35 _ _ hs).mono ?_; rintro e w' ⟨⟨x, b, rfl⟩, n, rfl⟩)
  go_ret
  exact ⟨rfl, _, rfl⟩
theorem takeWhile_stop {l : List UInt8} {k : Nat} (hk : k < l.length) (hall : ∀ j, (h : j < k) → l[j]'(by omega) ≠ 35) (hc : l[k] = 35) : l.takeWhile (fun x => x != 35) = l.take k := by
  induction k generalizing l with
  | zero =>
    cases l with
    | nil => rfl
    | cons a l =>
      have : a = 35 := hc
      subst this
      rfl
  | succ k ih =>
    cases l with
    | nil => simp at hk
    | cons a l =>
      have ha : a ≠ 35 := hall 0 (by omega)
      rw [List.takeWhile_cons, if_pos (by simpa using ha), List.take_succ_cons, ih (by simpa using hk) (fun j hj => hall (j + 1) (by omega)) hc]
theorem takeWhile_all {l : List UInt8} (hall : ∀ x ∈ l, x ≠ 35) : l.takeWhile (fun x => x != 35) = l := by
  induction l with
  | nil => rfl
  | cons a l ih =>
    rw [List.takeWhile_cons, if_pos (by simpa using hall a (by simp)), ih fun x hx => hall x (by simp [hx])]
theorem bare_stop {s : ByteArray} {k : Nat} (hk : k < s.size) (hall : ∀ j, (h : j < s.size) → j < k → (s[j].toNat : Int) ≠ 35) (hc : (s[k].toNat : Int) = 35) : bare s = s.extract 0 k := by
  apply bare_take
  exact takeWhile_stop (by rw [toList_len]; exact hk) (fun j hj => fun e => hall j (by omega) hj (by have h : s[j] = 35 := e; rw [h]; rfl)) (UInt8.toNat_inj.1 (by have : s[k] = s.data.toList[k] := rfl; rw [← this]; show s[k].toNat = 35; omega))
theorem bare_none {s : ByteArray} (hall : ∀ j, (h : j < s.size) → (s[j].toNat : Int) ≠ 35) : bare s = s := by
  apply bare_all
  refine takeWhile_all fun x hx => ?_
  obtain ⟨j, hj, rfl⟩ := List.getElem_of_mem hx
  rw [toList_len] at hj
  intro e
  exact hall j hj (by have h : s[j] = 35 := e; rw [h]; rfl)
theorem bareRef (s : ByteArray) (w : World) (hs : s.size ≤ maxLen) : Calls Tryz.prog 45 #[.string s] w fun e w' => e = .returned (.string (bare s)) ∧ w = w' := by
  unfold maxLen at hs
  go_enter Tryz.func45, Tryz.ntmps45
  go_wp2
  go_loop [3] (fun i => ∃ k : Nat, k ≤ s.size ∧ i = .int .i64 k ∧ Hid (∀ j, (h : j < s.size) → j < k → (s[j].toNat : Int) ≠ 35)) (fun i => s.size - (intOf i).toNat)
  case atStart => exact ⟨0, by omega, rfl, Lib.hid fun j _ h => by omega⟩
  case round =>
    obtain ⟨k, hk, rfl, hall⟩ := hrel
    by_cases hlt : k < s.size
    · by_cases hc : (s[k].toNat : Int) = 35
      · have hb := Lib.hid (bare_stop hlt hall.out hc)
        have hc' : ((s[k].toNat : Int) == 35) = true := by simpa using hc
        clear hall hc
        go_wp2_with fail
        go_ret
        exact ⟨ret_str hb.out.symm, rfl⟩
      · have hc' : ((s[k].toNat : Int) == 35) = false := by simpa using hc
        have hnext : Hid (∀ j, (h : j < s.size) → j < k + 1 → (s[j].toNat : Int) ≠ 35) := Lib.hid fun j h hj => by
          by_cases e : j = k
          · subst e; exact hc
          · exact hall.out j h (by omega)
        clear hall hc
        go_wp2_with fail
        go_round
        case rel => exact ⟨k + 1, by omega, by go_num, hnext⟩
        case measure => simp [intOf]; omega
    · have hb := Lib.hid (bare_none (s := s) (fun j h => hall.out j h (by omega)))
      clear hall
      go_wp2_with fail
      go_ret
      exact ⟨ret_str hb.out.symm, rfl⟩
def firstA (s : ByteArray) (h : 0 < s.size) : Int × Int :=
  if capB s[0].toNat then (1, wlen s 0)
  else if smallB s[0].toNat then (2, wlen s 0)
  else if s[0] = 46 then (3, 1)
  else if s[0] = 38 then (5, 1)
  else if Lib.hasPrefix s.data.toList [60, 45] then (4, 2)
  else (0, 0)
theorem first_46 (s : ByteArray) (w : World) (hs : s.size ≤ maxLen) (h : 0 < s.size) (h1 : capB s[0].toNat = false) (h2 : smallB s[0].toNat = false) (h3 : s[0] = 46) : Calls Tryz.prog 65 #[.string s] w fun e w' => e = .returned (.tuple #[.int .i64 3, .int .i64 1]) ∧ w = w' := by
  have hs' := hs
  unfold maxLen at hs
  have hone := one_byte s 0 h
  have he : (s.extract 0 1).toList = [s[0]] := by rw [Go.ByteArray.toList_eq, hone]
  have e3 : (s[0] == 46) = true := by simpa using h3
  clear hone h3
  go_enter Tryz.func65, Tryz.ntmps65
  go_wp2_with (first | (go_at_call 52; refine (isPrin1 _ _ (one_byte s 0 h) _).mono ?_; rintro e w' ⟨rfl, rfl⟩) | (go_at_call 53; refine (isName1 _ _ (one_byte s 0 h) _).mono ?_; rintro e w' ⟨rfl, rfl⟩))
  go_ret2
  exact ⟨rfl, rfl⟩
theorem first_38 (s : ByteArray) (w : World) (hs : s.size ≤ maxLen) (h : 0 < s.size) (h1 : capB s[0].toNat = false) (h2 : smallB s[0].toNat = false) (h3 : s[0] ≠ 46) (h4 : s[0] = 38) : Calls Tryz.prog 65 #[.string s] w fun e w' => e = .returned (.tuple #[.int .i64 5, .int .i64 1]) ∧ w = w' := by
  have hs' := hs
  unfold maxLen at hs
  have hone := one_byte s 0 h
  have he : (s.extract 0 1).toList = [s[0]] := by rw [Go.ByteArray.toList_eq, hone]
  have e3 : (s[0] == 46) = false := u8_ne h3
  have e4 : (s[0] == 38) = true := by simpa using h4
  clear hone h3 h4
  go_enter Tryz.func65, Tryz.ntmps65
  go_wp2_with (first | (go_at_call 52; refine (isPrin1 _ _ (one_byte s 0 h) _).mono ?_; rintro e w' ⟨rfl, rfl⟩) | (go_at_call 53; refine (isName1 _ _ (one_byte s 0 h) _).mono ?_; rintro e w' ⟨rfl, rfl⟩))
  go_ret2
  exact ⟨rfl, rfl⟩
theorem first_60 (s : ByteArray) (w : World) (hs : s.size ≤ maxLen) (h : 0 < s.size) (h1 : capB s[0].toNat = false) (h2 : smallB s[0].toNat = false) (h3 : s[0] ≠ 46) (h4 : s[0] ≠ 38) (h5 : Lib.hasPrefix s.data.toList [60, 45] = true) : Calls Tryz.prog 65 #[.string s] w fun e w' => e = .returned (.tuple #[.int .i64 4, .int .i64 2]) ∧ w = w' := by
  have hs' := hs
  unfold maxLen at hs
  have hone := one_byte s 0 h
  have he : (s.extract 0 1).toList = [s[0]] := by rw [Go.ByteArray.toList_eq, hone]
  have e3 : (s[0] == 46) = false := u8_ne h3
  have e4 : (s[0] == 38) = false := u8_ne h4
  clear hone h3 h4
  go_enter Tryz.func65, Tryz.ntmps65
  go_wp2_with (first | (go_at_call 52; refine (isPrin1 _ _ (one_byte s 0 h) _).mono ?_; rintro e w' ⟨rfl, rfl⟩) | (go_at_call 53; refine (isName1 _ _ (one_byte s 0 h) _).mono ?_; rintro e w' ⟨rfl, rfl⟩) | (go_at_call 85; refine (Tryz.strings_HasPrefix _ _ _).mono ?_; rintro e w' ⟨rfl, rfl⟩))
  go_ret2
  exact ⟨rfl, rfl⟩
theorem first_no (s : ByteArray) (w : World) (hs : s.size ≤ maxLen) (h : 0 < s.size) (h1 : capB s[0].toNat = false) (h2 : smallB s[0].toNat = false) (h3 : s[0] ≠ 46) (h4 : s[0] ≠ 38) (h5 : Lib.hasPrefix s.data.toList [60, 45] = false) : Calls Tryz.prog 65 #[.string s] w fun e w' => e = .returned (.tuple #[.int .i64 0, .int .i64 0]) ∧ w = w' := by
  have hs' := hs
  unfold maxLen at hs
  have hone := one_byte s 0 h
  have he : (s.extract 0 1).toList = [s[0]] := by rw [Go.ByteArray.toList_eq, hone]
  have e3 : (s[0] == 46) = false := u8_ne h3
  have e4 : (s[0] == 38) = false := u8_ne h4
  clear hone h3 h4
  go_enter Tryz.func65, Tryz.ntmps65
  go_wp2_with (first | (go_at_call 52; refine (isPrin1 _ _ (one_byte s 0 h) _).mono ?_; rintro e w' ⟨rfl, rfl⟩) | (go_at_call 53; refine (isName1 _ _ (one_byte s 0 h) _).mono ?_; rintro e w' ⟨rfl, rfl⟩) | (go_at_call 85; refine (Tryz.strings_HasPrefix _ _ _).mono ?_; rintro e w' ⟨rfl, rfl⟩))
  go_ret2
  exact ⟨rfl, rfl⟩
theorem first_small (s : ByteArray) (w : World) (hs : s.size ≤ maxLen) (h : 0 < s.size) (h1 : capB s[0].toNat = false) (h2 : smallB s[0].toNat = true) : Calls Tryz.prog 65 #[.string s] w fun e w' => e = .returned (.tuple #[.int .i64 2, .int .i64 (wlen s 0)]) ∧ w = w' := by
  have hs' := hs
  unfold maxLen at hs
  have hone := one_byte s 0 h
  have he : (s.extract 0 1).toList = [s[0]] := by rw [Go.ByteArray.toList_eq, hone]
  clear hone
  go_enter Tryz.func65, Tryz.ntmps65
  go_wp2_with (first | (go_at_call 52; refine (isPrin1 _ _ (one_byte s 0 h) _).mono ?_; rintro e w' ⟨rfl, rfl⟩) | (go_at_call 53; refine (isName1 _ _ (one_byte s 0 h) _).mono ?_; rintro e w' ⟨rfl, rfl⟩) | (go_at_call 84; refine (wordSize _ _ hs').mono ?_; rintro e w' ⟨rfl, rfl⟩))
  go_ret2
  exact ⟨rfl, rfl⟩
theorem first_cap (s : ByteArray) (w : World) (hs : s.size ≤ maxLen) (h : 0 < s.size) (h1 : capB s[0].toNat = true) : Calls Tryz.prog 65 #[.string s] w fun e w' => e = .returned (.tuple #[.int .i64 1, .int .i64 (wlen s 0)]) ∧ w = w' := by
  have hs' := hs
  unfold maxLen at hs
  have hone := one_byte s 0 h
  have he : (s.extract 0 1).toList = [s[0]] := by rw [Go.ByteArray.toList_eq, hone]
  clear hone
  go_enter Tryz.func65, Tryz.ntmps65
  go_wp2_with (first | (go_at_call 52; refine (isPrin1 _ _ (one_byte s 0 h) _).mono ?_; rintro e w' ⟨rfl, rfl⟩) | (go_at_call 53; refine (isName1 _ _ (one_byte s 0 h) _).mono ?_; rintro e w' ⟨rfl, rfl⟩) | (go_at_call 84; refine (wordSize _ _ hs').mono ?_; rintro e w' ⟨rfl, rfl⟩))
  go_ret2
  exact ⟨rfl, rfl⟩
theorem first (s : ByteArray) (w : World) (hs : s.size ≤ maxLen) (h : 0 < s.size) : Calls Tryz.prog 65 #[.string s] w fun e w' => e = .returned (.tuple #[.int .i64 (firstA s h).1, .int .i64 (firstA s h).2]) ∧ w = w' := by
  cases h1 : capB s[0].toNat
  · cases h2 : smallB s[0].toNat
    · by_cases h3 : s[0] = 46
      · rw [show firstA s h = (3, 1) by unfold firstA; rw [if_neg (by rw [h1]; decide), if_neg (by rw [h2]; decide), if_pos h3]]
        exact first_46 s w hs h h1 h2 h3
      · by_cases h4 : s[0] = 38
        · rw [show firstA s h = (5, 1) by unfold firstA; rw [if_neg (by rw [h1]; decide), if_neg (by rw [h2]; decide), if_neg h3, if_pos h4]]
          exact first_38 s w hs h h1 h2 h3 h4
        · cases h5 : Lib.hasPrefix s.data.toList [60, 45]
          · rw [show firstA s h = (0, 0) by unfold firstA; rw [if_neg (by rw [h1]; decide), if_neg (by rw [h2]; decide), if_neg h3, if_neg h4, if_neg (by rw [h5]; decide)]]
            exact first_no s w hs h h1 h2 h3 h4 h5
          · rw [show firstA s h = (4, 2) by unfold firstA; rw [if_neg (by rw [h1]; decide), if_neg (by rw [h2]; decide), if_neg h3, if_neg h4, if_pos h5]]
            exact first_60 s w hs h h1 h2 h3 h4 h5
    · rw [show firstA s h = (2, (wlen s 0 : Int)) by unfold firstA; rw [if_neg (by rw [h1]; decide), if_pos h2]]
      exact first_small s w hs h h1 h2
  · rw [show firstA s h = (1, (wlen s 0 : Int)) by unfold firstA; rw [if_pos h1]]
    exact first_cap s w hs h h1
end Go.Proofs.YtcbbffpalpieaaaGreat.Scan2
