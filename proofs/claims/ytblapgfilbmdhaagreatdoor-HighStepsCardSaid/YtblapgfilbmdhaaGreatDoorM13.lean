/- A table's texts by place, all of them, and with more. -/
import Derived.Test.YtblapgfilbmdhaaGreatDoorM12
import Derived.Lib.AppendZeros
import Derived.Test.YtblapgfilbmdhaaGreatDoorM11
import Derived.Test.YtblapgfilbmdhaaGreatDoorM04
import Derived.Deep.LoopGhost
import Derived.Test.YtblapgfilbmdhaaGreatDoorM06
import Derived.Deep.QuietTactic
import Derived.BigQuiet
set_option linter.unusedVariables false
set_option linter.unusedSimpArgs false
namespace Go.Proofs.YtblapgfilbmdhaaGreatDoor.Tab7
open Go.RowKit Go.Sort Go.Proofs Plain Tab1 Tab2 Tab3 Tab4 Tab5 Tab6 TabP
section
variable {P : Program} (w : World)
theorem run_append_of_nil (base : Nat) (t ty e : TypeId) (i : TypeInfo) (size : Nat) (ht : P.underlying t = some (.slice e)) (hi : P.info? e = some i)
    (v : Value) (n : Nat) (xs : List Value) (hown : w.ownsRow base e size v n xs) (c : Nat) : (Builtin.append_ #[t, t] ty #[v, .slice none 0 c]).run P w = .ok v w := by
  rcases hown.2 with ⟨rfl, rfl⟩ | ⟨g, cap, cur, rfl, _, _, hnc, _⟩
  · simp [Builtin.append_, run_underlying ht, sizeOf, typeInfo, hi, Builtin.lenOf, Builtin.firstCells]
  · simp [Builtin.append_, run_underlying ht, sizeOf, typeInfo, hi, Builtin.lenOf, Builtin.firstCells, hnc, storeCells]
theorem add_off (b off j : Nat) : ((⟨b, off, none⟩ : Addr).add j) = ⟨b, off + j, none⟩ := by
  unfold Addr.add
  split
  · rename_i h; subst h; rfl
  · simp
theorem run_append_src (base : Nat) (t ty e : TypeId) (i : TypeInfo) (z : Value) (ht : P.underlying t = some (.slice e)) (hi : P.info? e = some i) (hz : i.zero = some z)
    (hsize : i.size = 1) (hby : i.bytes = 16) (hzs : z.cells.size = 1)
    (v : Value) (L : List Str) (hown : w.ownsRow base e 1 v L.length (L.map encStr)) (A : Option Addr) (c : Nat) (T : List Str) (hr : SRow w A T)
    (hbig : L.length + T.length ≤ 1000000) (hbase : base ≤ w.heap.size) :
    ∃ v' w', (Builtin.append_ #[t, t] ty #[v, .slice A T.length c]).run P w = .ok v' w' ∧ w'.ownsRow base e 1 v' (L ++ T).length ((L ++ T).map encStr) ∧ w.grownBy w' v.ownBlock := by
  rcases A with _ | ad
  · have hm : T = [] := by
      rcases Nat.eq_zero_or_pos T.length with h0 | h0
      · exact List.eq_nil_of_length_eq_zero h0
      · obtain ⟨_, _, h, _⟩ := hr h0
        cases h
    subst hm
    exact ⟨v, w, run_append_of_nil w base t ty e i 1 ht hi v _ _ hown c, by simpa using hown, World.grownBy.refl w _⟩
  · have hcells : ∀ j u, (T.map encStr)[j]? = some u → w.cell? (ad.add j) = some u := by
      intro j u hu
      have hj : j < T.length := by
        rcases Nat.lt_or_ge j T.length with h | h
        · exact h
        · rw [List.getElem?_eq_none (by simpa using h)] at hu; cases hu
      obtain ⟨b, off, h, _, hc⟩ := hr (by omega)
      injection h with h
      subst h
      rw [add_off, hc j hj, ← hu, List.getElem?_map, List.getElem?_eq_getElem hj]
      rfl
    obtain ⟨v', w', hrun, h2, h3, _⟩ := run_append_own (P := P) w base t ty e i z 1 16 ht hi hz hsize hby hzs (by decide) v L.length (L.map encStr) hown ad T.length c (T.map encStr) (by simp) hcells
      (fun u hu => by
        obtain ⟨x, _, rfl⟩ := List.mem_map.1 hu
        rfl) (by unfold maxLen; omega) (by omega) hbase
    exact ⟨v', w', hrun, by rw [List.length_append, List.map_append]; exact h2, h3⟩
theorem wpList_append_src {ops : Array Oper} {rest : List Oper} {o : Oper} {a : Act} {Q : Exit → Act → World → Prop} (hgd : o.guard = none) (s x : Operand) (t : TypeId)
    (ho : o.op = .call { callee := .builtin .append, args := #[s, x], argTypes := #[t, t] })
    (base : Nat) (e : TypeId) (i : TypeInfo) (z : Value) (ht : P.underlying t = some (.slice e)) (hi : P.info? e = some i) (hz : i.zero = some z)
    (hsize : i.size = 1) (hby : i.bytes = 16) (hzs : z.cells.size = 1)
    (v : Value) (L : List Str) (hs : a.eval s = v) (hown : w.ownsRow base e 1 v L.length (L.map encStr)) (A : Option Addr) (c : Nat) (T : List Str) (hx : a.eval x = .slice A T.length c) (hr : SRow w A T)
    (hbig : L.length + T.length ≤ 1000000) (hbase : base ≤ w.heap.size)
    (h : ∀ v' w', w'.ownsRow base e 1 v' (L ++ T).length ((L ++ T).map encStr) → w.grownBy w' v.ownBlock → wpList P ops Q rest (a.put o.dst v') w') : wpList P ops Q (o :: rest) a w := by
  obtain ⟨v', w', hrun, h2, h3⟩ := run_append_src (P := P) w base t o.type e i z ht hi hz hsize hby hzs v L hown A c T hr hbig hbase
  exact Lib.wpList_append_run w hgd s x t t ho v _ hs hx v' w' hrun (h v' w' h2 h3)
end
theorem at_out (t : Nat) (A : Option Addr) (n c : Nat) (i : Int) (w : World) (h : w.cell? ⟨t, 0, none⟩ = some (.slice A n c)) (hi : i < 0 ∨ (n : Int) ≤ i) :
    Calls Tryz.prog 56 #[.pointer (some ⟨t, 0, none⟩), .int .i64 i] w fun e w' => e = .returned (.string ⟨#[]⟩) ∧ w = w' := by
  by_cases h0 : i < 0
  · clear hi
    go_enter Tryz.func56, Tryz.ntmps56
    go_wp2_with (go_at_call 98; refine (len _ _ _ _ _ h).mono ?_; rintro e w' ⟨rfl, rfl⟩)
    go_ret
    exact ⟨rfl, rfl⟩
  · have h1 : (n : Int) ≤ i := by omega
    clear hi
    go_enter Tryz.func56, Tryz.ntmps56
    go_wp2_with (go_at_call 98; refine (len _ _ _ _ _ h).mono ?_; rintro e w' ⟨rfl, rfl⟩)
    go_ret
    exact ⟨rfl, rfl⟩
theorem at_in (t : Nat) (A : Option Addr) (T : List Str) (c k : Nat) (w : World) (h : w.cell? ⟨t, 0, none⟩ = some (.slice A T.length c)) (hT : T.length ≤ 1000000) (hr : SRow w A T) (hk : k < T.length) :
    Calls Tryz.prog 56 #[.pointer (some ⟨t, 0, none⟩), .int .i64 k] w fun e w' => e = .returned (.string ⟨T[k].toArray⟩) ∧ w = w' := by
  obtain ⟨g, off, rfl, hg, hc⟩ := hr (by omega)
  have hx := hc k hk
  clear hc
  go_enter Tryz.func56, Tryz.ntmps56
  go_wp2_with (go_at_call 98; refine (len _ _ _ _ _ h).mono ?_; rintro e w' ⟨rfl, rfl⟩)
  go_ret
  exact ⟨rfl, rfl⟩
theorem cloneC (A : Option Addr) (c : Nat) (T : List Str) (w : World) (hn : T.length ≤ 1000000) (h : SRow w A T) : Calls Tryz.prog 64 #[.slice A T.length c] w (RowPost T w) := by
  rcases A with _ | ad
  · have : T = [] := by
      cases T with
      | nil => rfl
      | cons a l => obtain ⟨_, _, e, _⟩ := h (by simp); cases e
    subst this
    refine (Tryz.slices_Clone_string_nil _ _ _).mono ?_
    rintro e w' ⟨rfl, rfl⟩
    exact ⟨_, rfl, World.ownsRow_nil _ _ _ _, Below.refl _ _⟩
  · by_cases h0 : 0 < T.length
    · obtain ⟨b, off, e, _, hc⟩ := h h0
      injection e with e
      subst e
      have := Tryz.slices_Clone_string b off T.length c (T.map enB) w (by simp) (by omega) (fun j hj => by
        rw [List.length_map] at hj
        rw [hc j hj, List.getD_eq_getElem?_getD, List.getElem?_map, List.getElem?_eq_getElem hj]; rfl)
      rw [List.take_of_length_le (by simp), map_enB] at this
      refine this.mono ?_
      rintro e w' ⟨v, rfl, h1, _, h2⟩
      exact ⟨v, rfl, h1, h2⟩
    · have : T = [] := List.eq_nil_of_length_eq_zero (by omega)
      subst this
      refine (Tryz.slices_Clone_string_zero ad c w).mono ?_
      rintro e w' ⟨v, rfl, h1, _, h2⟩
      exact ⟨v, rfl, h1, h2⟩
theorem all (t : Nat) (A : Option Addr) (T : List Str) (c : Nat) (w : World) (h : w.cell? ⟨t, 0, none⟩ = some (.slice A T.length c)) (hT : T.length ≤ 1000000) (hr : SRow w A T) :
    Calls Tryz.prog 95 #[.pointer (some ⟨t, 0, none⟩)] w (RowPost T w) := by
  go_enter Tryz.func95, Tryz.ntmps95
  go_wp2_with (first | (go_at_call 130; refine (kept _ _ _ h).mono ?_; rintro e w' ⟨rfl, rfl⟩) | (go_at_call 64; refine (cloneC A c T _ hT hr).mono ?_; rintro e w' ⟨v, rfl, h1, h2⟩))
  go_ret
  exact ⟨_, rfl, h1, h2⟩
set_option maxRecDepth 100000 in
theorem grow (n : Nat) (w : World) (hn : n ≤ 1000000) : Calls Tryz.prog 170 #[.slice none 0 0, .int .i64 n] w (RowPost [] w) := by
  obtain ⟨i0, hi, hz0, hz1, hz2⟩ := info_parts infoStr
  by_cases h0 : 0 < n
  · have hz : 0 < i0.size := by rw [hz1]; omega
    have hby : n * i0.bytes ≤ 281474976710656 := by rw [hz2]; omega
    have hrun := Lib.run_append_nil_zeros (P := Tryz.prog) w 32 3 32 9 i0 (.string ⟨#[]⟩) .i64 .i64 Tryz.underlying32 Tryz.underlying3 hi hz0 n h0 hz (by omega) hby
    have hg := grownCap_ge w n 0 9
    have hm := grownCap_le_maxLen w n 0 9 (by unfold maxLen; omega)
    have hm' := hm
    have hsz : (Builtin.zeroCells (Value.string ⟨#[]⟩).cells n ++ Builtin.zeroCells (Value.string ⟨#[]⟩).cells (grownCap w n 0 9 - n)).size = grownCap w n 0 9 * 1 := by
      rw [Array.size_append, size_zeroCells, size_zeroCells]
      show n * 1 + (grownCap w n 0 9 - n) * 1 = _
      omega
    generalize Builtin.zeroCells (Value.string ⟨#[]⟩).cells n ++ Builtin.zeroCells (Value.string ⟨#[]⟩).cells (grownCap w n 0 9 - n) = cells at *
    generalize grownCap w n 0 9 = gc at *
    have Hsz := Lib.hid hsz
    have Hm := Lib.hid hm'
    have Hrun := Lib.hid hrun
    clear hsz hz hby hm' hrun
    unfold maxLen at hm
    go_enter Tryz.func170, Tryz.ntmps170
    go_wp2_with (refine Lib.wpList_append_run (P := Tryz.prog) (o := ⟨some 22, _, _, _, _, _⟩) w rfl (.tmp 20) (.tmp 21) 32 3 rfl (.slice none 0 0) (.int .i64 n) ?hs ?hx (.slice (some ⟨w.heap.size, 0, none⟩) n gc) (w.drew.alloc (.cells cells 9)) (by exact Hrun.out) ?_)
    case hs => rfl
    case hx => rfl
    go_wp2
    go_ret
    exact ⟨_, rfl, World.ownsRow_made w.drew cells gc (Nat.le_refl _) Hm.out Hsz.out, (Below.refl _ _).drew.alloc (Nat.le_refl _) _⟩
  · have : n = 0 := by omega
    subst this
    go_enter Tryz.func170, Tryz.ntmps170
    go_wp2
    go_ret
    exact ⟨_, rfl, World.ownsRow_nil _ _ _ _, Below.refl _ _⟩
set_option maxHeartbeats 800000 in
set_option maxRecDepth 100000 in
theorem concat (b : Nat) (A1 A2 : Option Addr) (c1 c2 : Nat) (T1 T2 : List Str) (w : World) (h1 : T1.length ≤ 100000) (h2 : T2.length ≤ 100000) (hb : b < w.heap.size)
    (hc1 : w.cell? ⟨b, 0, none⟩ = some (.slice A1 T1.length c1)) (hc2 : w.cell? ⟨b, 1, none⟩ = some (.slice A2 T2.length c2)) (hr1 : SRow w A1 T1) (hr2 : SRow w A2 T2) :
    Calls Tryz.prog 129 #[.slice (some ⟨b, 0, none⟩) 2 2] w (RowPost (T1 ++ T2) w) := by
  obtain ⟨i0, hi, hz0, hz1, hz2⟩ := info_parts infoStr
  have HR1 := Lib.hid hr1
  have HR2 := Lib.hid hr2
  clear hr1 hr2
  go_enter Tryz.func129, Tryz.ntmps129
  go_wp2_with fail
  go_loop [3, 11] (fun s i => (s = .int .i64 0 ∧ i = .int .i64 0) ∨ (s = .int .i64 T1.length ∧ i = .int .i64 1) ∨ (s = .int .i64 ((T1.length + T2.length : Nat) : Int) ∧ i = .int .i64 2)) (fun _ i => 2 - (intOf i).toNat)
  case atStart => exact .inl ⟨rfl, rfl⟩
  case round =>
    rcases hrel with ⟨rfl, rfl⟩ | ⟨rfl, rfl⟩ | ⟨rfl, rfl⟩
    · go_wp2_with fail
      go_round
      case rel => exact .inr (.inl ⟨by simp, rfl⟩)
      case measure => simp [intOf]
    · go_wp2_with fail
      go_round
      case rel => exact .inr (.inr ⟨by simp, rfl⟩)
      case measure => simp [intOf]
    · go_wp2_with fail
      rw [← Int.natCast_add]
      refine (grow (T1.length + T2.length) w (by omega)).mono ?_
      rintro e w1 ⟨v1, rfl, hown1, hbel1⟩
      go_wp2_with fail
      go_loopw [6, 27] (fun v i wr => Below w.heap.size w wr ∧ ((wr.ownsRow w.heap.size 9 1 v ([] : List Str).length (([] : List Str).map encStr) ∧ i = .int .i64 0) ∨ (wr.ownsRow w.heap.size 9 1 v T1.length (T1.map encStr) ∧ i = .int .i64 1) ∨ (wr.ownsRow w.heap.size 9 1 v (T1 ++ T2).length ((T1 ++ T2).map encStr) ∧ i = .int .i64 2))) (fun _ i _ => 2 - (intOf i).toNat)
      case atStart => exact ⟨hbel1, .inl ⟨hown1, rfl⟩⟩
      case round =>
        obtain ⟨hbel, ⟨hown, rfl⟩ | ⟨hown, rfl⟩ | ⟨hown, rfl⟩⟩ := hrel
        · have d1 := (hbel.cell (p := ⟨b, 0, none⟩) hb).trans hc1
          have hr := HR1.out.keep hbel
          clear hown1 hbel1
          go_wp2_with (at_builtin; refine wpList_append_src _ rfl _ _ 32 rfl w.heap.size 9 i0 (.string ⟨#[]⟩) Tryz.underlying32 hi hz0 hz1 hz2 rfl _ [] rfl hown A1 c1 T1 rfl hr (by first | omega | (simp; omega)) hbel.size ?_)
          intro v2 w2 hown2 hgrow
          have hbel2 := hbel.grown hgrow hbel.size (fun k hk => (hown.lt k hk).1)
          clear hown hbel hgrow
          go_wp2_with fail
          go_roundw
          case rel => exact ⟨hbel2, .inr (.inl ⟨hown2, rfl⟩)⟩
          case measure => simp [intOf]
        · have d1 := (hbel.cell (p := ⟨b, 1, none⟩) hb).trans hc2
          have hr := HR2.out.keep hbel
          clear hown1 hbel1
          go_wp2_with (at_builtin; refine wpList_append_src _ rfl _ _ 32 rfl w.heap.size 9 i0 (.string ⟨#[]⟩) Tryz.underlying32 hi hz0 hz1 hz2 rfl _ T1 rfl hown A2 c2 T2 rfl hr (by first | omega | (simp; omega)) hbel.size ?_)
          intro v2 w2 hown2 hgrow
          have hbel2 := hbel.grown hgrow hbel.size (fun k hk => (hown.lt k hk).1)
          clear hown hbel hgrow
          go_wp2_with fail
          go_roundw
          case rel => exact ⟨hbel2, .inr (.inr ⟨by rw [List.length_append, List.map_append]; exact hown2, rfl⟩)⟩
          case measure => simp [intOf]
        · clear hown1 hbel1
          go_wp2_with fail
          go_ret
          exact ⟨_, rfl, hown, hbel⟩
abbrev NewPost' := NewPost
set_option maxRecDepth 100000 in
theorem with_row (p : Value) (A1 A2 : Option Addr) (c1 c2 : Nat) (T1 T2 : List Str) (w : World) (h1 : T1.length ≤ 100000) (h2 : T2.length ≤ 100000) (hr1 : SRow w A1 T1) (hr2 : SRow w A2 T2)
    (hkept : Calls Tryz.prog 130 #[p] w fun e w' => e = .returned (.slice A1 T1.length c1) ∧ w = w') :
    Calls Tryz.prog 93 #[p, .slice A2 T2.length c2] w (NewPost' (T1 ++ T2) w) := by
  have HK := Lib.hid hkept
  have HR1 := Lib.hid hr1
  have HR2 := Lib.hid hr2
  clear hkept hr1 hr2
  go_enter Tryz.func93, Tryz.ntmps93
  go_wp2_with (go_at_call 130; refine HK.out.mono ?_; rintro e w' ⟨rfl, rfl⟩)
  have hb := (Below.refl w.heap.size w).alloc (Nat.le_refl _) (.cells #[.slice A1 T1.length c1, .slice A2 T2.length c2] 32)
  have hcell : ∀ j, (w.alloc (.cells #[.slice A1 T1.length c1, .slice A2 T2.length c2] 32)).cell? ⟨w.heap.size, j, none⟩ = #[Value.slice A1 T1.length c1, Value.slice A2 T2.length c2][j]? := fun j => Lib.cell_of_heap (heap_alloc_new w _) j
  refine (concat w.heap.size A1 A2 c1 c2 T1 T2 _ h1 h2 (by simp) (hcell 0) (hcell 1) (HR1.out.keep hb) (HR2.out.keep hb)).mono ?_
  rintro e w1 ⟨v, rfl, hown, hb1⟩
  obtain ⟨A, c, rfl, _, hr⟩ := SRow.of_own hown
  have hbel := hb.trans (hb1.mono hb.size)
  clear hown hcell hb hb1
  have hlen : (T1 ++ T2).length ≤ 1000000 := by rw [List.length_append]; omega
  generalize T1 ++ T2 = T at *
  go_wp2_with (go_at_call 91; refine (new A c T _ hlen hr).mono ?_; rintro e w2 ⟨p2, rfl, ⟨t, v2, rfl, ht, hh, ho⟩, hb2⟩)
  go_ret
  exact ⟨_, rfl, ⟨t, v2, rfl, Nat.le_trans hbel.size ht, hh, own_base ho hbel.size⟩, hbel.trans (hb2.mono hbel.size)⟩
end Go.Proofs.YtblapgfilbmdhaaGreatDoor.Tab7
namespace Go.Proofs.YtblapgfilbmdhaaGreatDoor.Qry4
open Go.RowKit Go.Sort Go.Proofs Plain SynP TabP Tab1 Grown SynA QryP
end Go.Proofs.YtblapgfilbmdhaaGreatDoor.Qry4
namespace Go.Proofs.YtblapgfilbmdhaaGreatDoor.Qry5
open Go.RowKit Go.Sort Go.Proofs Plain SynP TabP Tab1 Grown SynA SynE QryP Qry4
def VRow (w : World) (A : Option Addr) (vs : List Value) : Prop :=
  0 < vs.length → ∃ g o, A = some ⟨g, o, none⟩ ∧ g < w.heap.size ∧ ∀ j, (h : j < vs.length) → w.cell? ⟨g, o + j, none⟩ = some vs[j]
theorem VRow.of_own {w : World} {B : Nat} {e : TypeId} {v : Value} {n : Nat} {vs : List Value} (h : w.ownsRow B e 1 v n vs) : ∃ A cap, v = .slice A n cap ∧ n ≤ cap ∧ VRow w A vs := by
  have hl : vs.length = n := by have := h.1; omega
  rcases h.2 with ⟨rfl, h0⟩ | ⟨g, cap, cur, rfl, hB, hh, hc, hm, hs, ht⟩
  · exact ⟨none, 0, by rw [h0], by omega, fun hp => by omega⟩
  · refine ⟨_, _, rfl, hc, fun hp => ⟨g, 0, rfl, (h.lt g rfl).2, fun j hj => ?_⟩⟩
    have e1 : (cur.toList.take (n * 1))[j]? = some vs[j] := by rw [ht]; exact List.getElem?_eq_getElem hj
    rw [List.getElem?_take_of_lt (by omega)] at e1
    rw [Lib.cell_of_heap hh, Nat.zero_add, ← Array.getElem?_toList]
    exact e1
theorem VRow.below {w w' : World} {A : Option Addr} {vs : List Value} (h : VRow w A vs) (hb : Below w.heap.size w w') : VRow w' A vs := fun hp => by
  obtain ⟨g, o, hA, hg, hc⟩ := h hp
  exact ⟨g, o, hA, Nat.lt_of_lt_of_le hg hb.size, fun j hj => (hb.cell (p := ⟨g, o + j, none⟩) hg).trans (hc j hj)⟩
end Go.Proofs.YtblapgfilbmdhaaGreatDoor.Qry5
