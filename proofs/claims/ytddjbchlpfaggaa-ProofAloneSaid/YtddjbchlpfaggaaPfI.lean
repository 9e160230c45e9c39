/- The search by contract: all facts, each with a step that stands on those ahead. -/
import Derived.Test.YtddjbchlpfaggaaPfH
namespace Go.Proofs.Ytddjbchlpfaggaa.PfI
open Go.RowKit Go.Lib Go.Proofs Go.Maps Go.Proofs.Ytddjbchlpfaggaa.SetQ Go.Proofs.Ytddjbchlpfaggaa.SetR Go.Proofs.Ytddjbchlpfaggaa.TblC Go.Proofs.Ytddjbchlpfaggaa.TblV Go.Proofs.Ytddjbchlpfaggaa.TblQ Go.Proofs.Ytddjbchlpfaggaa.SemB Go.Proofs.Ytddjbchlpfaggaa.SemC Go.Proofs.Ytddjbchlpfaggaa.SemD Go.Proofs.Ytddjbchlpfaggaa.SemGa Go.Proofs.Ytddjbchlpfaggaa.SemJ Go.Proofs.Ytddjbchlpfaggaa.PfM Go.Proofs.Ytddjbchlpfaggaa.PfN Go.Proofs.Ytddjbchlpfaggaa.PfO Go.Proofs.Ytddjbchlpfaggaa.PfA Go.Proofs.Ytddjbchlpfaggaa.PfB Go.Proofs.Ytddjbchlpfaggaa.PfC Go.Proofs.Ytddjbchlpfaggaa.PfD Go.Proofs.Ytddjbchlpfaggaa.PfE Go.Proofs.Ytddjbchlpfaggaa.PfF Go.Proofs.Ytddjbchlpfaggaa.PfG Go.Proofs.Ytddjbchlpfaggaa.PfP
set_option linter.unusedVariables false
set_option linter.unusedSimpArgs false
/-- The search as it begins. -/
theorem wq_start {w : World} (d0 d1 : Int) (A : Option Addr) (ca : Nat) (L : List Ru) (hA : UG w A L) :
    Wq w ((((w.alloc (.cells #[.int .i64 d0, .int .i64 d1, .slice A L.length ca] 50)).alloc (.map #[] 0)).alloc (.map #[] 0)).alloc (.cells #[.int .i64 d0, .int .i64 d1, .slice A L.length ca, .map (some (w.heap.size + 1)), .slice none 0 0, .map (some (w.heap.size + 1 + 1))] 81))
      ⟨w.heap.size + 1 + 1 + 1, w.heap.size + 1, w.heap.size + 1 + 1, d0, d1, A, ca, L⟩ ss0 0 ⟨[(w.heap.size, #[.int .i64 d0, .int .i64 d1, .slice A L.length ca], 50)], []⟩ := by
  obtain ⟨w0, h0⟩ : ∃ w0, w.alloc (.cells #[.int .i64 d0, .int .i64 d1, .slice A L.length ca] 50) = w0 := ⟨_, rfl⟩
  have z0 : w0.heap.size = w.heap.size + 1 := by rw [← h0]; simp
  have b0 : Below w.heap.size w w0 := by rw [← h0]; exact (Below.refl _ _).alloc (Nat.le_refl _) _
  have g0 : w0.heap[w.heap.size]? = some (.cells #[.int .i64 d0, .int .i64 d1, .slice A L.length ca] 50 (0, 0)) := by rw [← h0]; exact heap_alloc_new w _
  rw [h0]
  obtain ⟨w1, h1⟩ : ∃ w1, w0.alloc (.map #[] 0) = w1 := ⟨_, rfl⟩
  have z1 : w1.heap.size = w.heap.size + 1 + 1 := by rw [← h1]; simp [z0]
  have b1 : Below w0.heap.size w0 w1 := by rw [← h1]; exact (Below.refl _ _).alloc (Nat.le_refl _) _
  have m1 : MapV w1 53 fv (w.heap.size + 1) 0 (kmap []) := by rw [← h1, ← z0]; exact MapV.made w0 _ _
  rw [h1]
  obtain ⟨w2, h2⟩ : ∃ w2, w1.alloc (.map #[] 0) = w2 := ⟨_, rfl⟩
  have z2 : w2.heap.size = w.heap.size + 1 + 1 + 1 := by rw [← h2]; simp [z1]
  have b2 : Below w1.heap.size w1 w2 := by rw [← h2]; exact (Below.refl _ _).alloc (Nat.le_refl _) _
  have m2 : MapV w2 3 iv (w.heap.size + 1 + 1) 0 (fun _ => none) := by rw [← h2, ← z1]; exact MapV.made w1 _ _
  rw [h2]
  obtain ⟨w3, h3⟩ : ∃ w3, w2.alloc (.cells #[.int .i64 d0, .int .i64 d1, .slice A L.length ca, .map (some (w.heap.size + 1)), .slice none 0 0, .map (some (w.heap.size + 1 + 1))] 81) = w3 := ⟨_, rfl⟩
  have b3 : Below w2.heap.size w2 w3 := by rw [← h3]; exact (Below.refl _ _).alloc (Nat.le_refl _) _
  have s3 : w3.heap[w.heap.size + 1 + 1 + 1]? = some (.cells #[.int .i64 d0, .int .i64 d1, .slice A L.length ca, .map (some (w.heap.size + 1)), .slice none 0 0, .map (some (w.heap.size + 1 + 1))] 81 (0, 0)) := by rw [← h3, ← z2]; exact heap_alloc_new w2 _
  rw [h3]
  have b02 : Below w.heap.size w w3 := ((b0.trans (b1.mono (by omega))).trans (b2.mono (by omega))).trans (b3.mono (by omega))
  refine ⟨Nat.zero_le _, .slice none 0 0, fun _ => none, ?_, ?_⟩
  · exact {
      bel := b02
      wb := s3
      ug := hA
      km := (m1.below b2).below b3
      wm := m2.below b3
      ne := by simp only; omega
      qu := .inl ⟨rfl, rfl⟩
      rows := fun r => World.ownsRow_nil _ _ _ _
      apart := fun r s hne g hg => by simp [rowV, nilS, Value.ownBlock] at hg
      up := by simp only; omega }
  · refine ⟨fun p hp => ?_, fun p hp => by cases hp⟩
    simp only [List.mem_cons, List.not_mem_nil, or_false] at hp
    subst hp
    refine ⟨?_, ?_, fun e => by simp [Value.ownBlock] at e, fun r e => by simp [rowV, nilS, Value.ownBlock] at e⟩
    · exact (b3.block _ (by omega)).trans ((b2.block _ (by omega)).trans ((b1.block _ (by omega)).trans g0))
    · show w.heap.size ≠ w.heap.size + 1 + 1 + 1
      omega
/-- Another queue: its head was taken. -/
theorem wq_pop {W w : World} {a : Ad} {t : Ss} {h : Nat} {F : Frm} {s : Sp} (hq : Wq W w a t h F) (hs : t.known[h]? = some s) : ∃ g o cap n, (∀ k, w.cell? ⟨a.ws, k, none⟩ = (#[.int .i64 a.d0, .int .i64 a.d1, .slice a.A a.L.length a.ca, .map (some a.bk), .slice (some ⟨g, o, none⟩) (n + 1) cap, .map (some a.bw)] : Array Value)[k]?) ∧ n + 1 ≤ cap ∧ cap ≤ maxLen ∧
    (∀ w', Below w.heap.size w w' → w'.cell? ⟨g, o, none⟩ = some (.int .i64 s.role) ∧ w'.cell? ⟨g, o + 1, none⟩ = some (.int .i64 s.who) ∧ (∀ k, w'.frozen? ⟨a.ws, k, none⟩ = false) ∧ (cap = 1 → Wq W (w'.setCell ⟨a.ws, 4, none⟩ (.slice (some ⟨g, o, none⟩) 0 0)) a t (h + 1) F) ∧ (cap ≠ 1 → Wq W (w'.setCell ⟨a.ws, 4, none⟩ (.slice (some ⟨g, o + 2, none⟩) n (cap - 1))) a t (h + 1) F)) ∧ (cap = 1 → n = 0) := by
  obtain ⟨hle, qv, M, hk, hfr⟩ := hq
  have hlt : h < t.known.length := (List.getElem?_eq_some_iff.1 hs).1
  have hdr : t.known.drop h = s :: t.known.drop (h + 1) := by
    rw [List.drop_eq_getElem_cons hlt]
    congr 1
    have := List.getElem?_eq_getElem hlt
    rw [hs] at this
    simpa using this.symm
  have hqu := hk.qu
  rw [hdr, List.map_cons] at hqu
  obtain ⟨g, o, cap, rfl, hc, hm, hpop⟩ := qu_pop hqu
  refine ⟨g, o, cap, ((t.known.drop (h + 1)).map Sp.fa).length, Wk.cells hk, hc, hm, fun w' hb => ?_, fun e => by omega⟩
  have hk' := hk.below hb
  have hf' := hfr.below hb
  have hqu' := hk'.qu
  rw [hdr, List.map_cons] at hqu'
  obtain ⟨p1, p2, p3, p4⟩ := hpop w' hqu'
  have hgr : ∀ r, w'.grownBy w' r := fun r => ⟨rfl, rfl, rfl, Nat.le_refl _, fun _ _ _ => rfl⟩
  exact ⟨p1, p2, fun k => frozen_of_row _ _ _ _ _ hk'.wb, fun e => ⟨hlt, _, M, Wk.queue hk' (hgr _) (p3 e), Frm.ok.queue hk' hf' (hgr _) (.inl rfl)⟩, fun e => ⟨hlt, _, M, Wk.queue hk' (hgr _) (p4 e), Frm.ok.queue hk' hf' (hgr _) (.inl rfl)⟩⟩
/-- An empty queue. -/
theorem wq_empty {W w : World} {a : Ad} {t : Ss} {h : Nat} {F : Frm} (hq : Wq W w a t h F) (hs : t.known.length ≤ h) : h = t.known.length ∧ ∃ A0 c0, ∀ k, w.cell? ⟨a.ws, k, none⟩ = (#[.int .i64 a.d0, .int .i64 a.d1, .slice a.A a.L.length a.ca, .map (some a.bk), .slice A0 0 c0, .map (some a.bw)] : Array Value)[k]? := by
  obtain ⟨hle, qv, M, hk, hfr⟩ := hq
  refine ⟨by omega, ?_⟩
  have hqu := hk.qu
  rw [List.drop_eq_nil_of_le hs, List.map_nil] at hqu
  have hqn : ∃ A0 c0, qv = .slice A0 0 c0 := by
    rcases hqu with ⟨rfl, _⟩ | ⟨g, o, cap, cur, rfl, _⟩ <;> exact ⟨_, _, rfl⟩
  obtain ⟨A0, c0, rfl⟩ := hqn
  exact ⟨A0, c0, Wk.cells hk⟩
/-- What the search leaves: a map of all that follows, in an order in which the steps are a proof. -/
def SearchPost (P K : Nat) (L : List Ru) (w : World) (e : Ending) (w' : World) : Prop :=
  ∃ (b : Nat) (kn : List Sp), e = .returned (.map (some b)) ∧ w.heap.size ≤ b ∧ MapV w' 53 fv b kn.length (kmap kn) ∧ Below w.heap.size w w' ∧ chk P K L [] kn = true ∧ ∀ r x, hasS kn (r, x) = derB P K L r x
theorem inv_dims {d0 d1 : Int} {L : List Ru} {T h c : Nat} {t : Ss} {s : Sp} {pend : List (Int × Int)} (hi : Inv d0.toNat d1.toNat L T h pend c t) (hs : t.known[h]? = some s) : d0 = (d0.toNat : Int) ∧ d1 = (d1.toNat : Int) := by
  obtain ⟨_, _, u, hu, _⟩ := chk_rng _ _ hi.ck s (List.mem_of_getElem? hs)
  have := right_dims (ruleAt_some hu).2.2.2
  omega
set_option maxHeartbeats 2000000 in
set_option maxRecDepth 100000 in
theorem search (d0 d1 : Int) (A : Option Addr) (ca : Nat) (L : List Ru) (w : World) (g1 : d0 ≤ 10) (g2 : d1 ≤ 6) (hL : L.length ≤ 60) (hA : UG w A L) :
    Calls Try.prog 28 #[.agg #[.int .i64 d0, .int .i64 d1, .slice A L.length ca]] w (SearchPost d0.toNat d1.toNat L w) := by
  have hst := wq_start d0 d1 A ca L hA
  have hmm := @run_makeMap Try.prog
  have cg : ∀ o, (w.alloc (.cells #[.int .i64 d0, .int .i64 d1, .slice A L.length ca] 50)).cell? ⟨w.heap.size, o, none⟩ = (#[.int .i64 d0, .int .i64 d1, .slice A L.length ca] : Array Value)[o]? := fun o => Lib.cell_of_heap (heap_alloc_new w _) o
  obtain ⟨P, hP⟩ : ∃ P, d0.toNat = P := ⟨_, rfl⟩
  obtain ⟨K, hK⟩ : ∃ K, d1.toNat = K := ⟨_, rfl⟩
  have HDim : Hid (∀ T h c t s, Inv P K L T h [] c t → t.known[h]? = some s → d0 = (P : Int) ∧ d1 = (K : Int)) := Lib.hid (fun T h c t s hi hs => by
    rw [← hP, ← hK] at hi
    have := inv_dims hi hs
    rw [hP, hK] at this
    exact this)
  have lP : P ≤ 10 := by omega
  have lK : K ≤ 6 := by omega
  rw [hP, hK]
  have HRu : Hid (∀ (i : Int) w', UG w' A L → Calls Try.prog 22 #[.agg #[.int .i64 d0, .int .i64 d1, .slice A L.length ca], .int .i64 i] w' (RulePost P K L i w')) := Lib.hid (fun i w' hu => by
    have := PfE.rule d0 d1 A ca L i w' (by omega) (by omega) (by omega) hu
    rw [hP, hK] at this
    exact this)
  clear hP hK hA
  go_enter Try.func28, Try.ntmps28
  go_upto_region 2 with fail
  clear hmm cg
  obtain ⟨bx, hbx⟩ : ∃ bx, w.heap.size = bx := ⟨_, rfl⟩
  simp only [hbx] at hst ⊢
  have HBX := Lib.hid hbx
  clear hbx
  generalize ((((w.alloc (.cells #[.int .i64 d0, .int .i64 d1, .slice A L.length ca] 50)).alloc (.map #[] 0)).alloc (.map #[] 0)).alloc (.cells #[.int .i64 d0, .int .i64 d1, .slice A L.length ca, .map (some (bx + 1)), .slice none 0 0, .map (some (bx + 1 + 1))] 81)) = w4 at *
  obtain ⟨F0, hF0⟩ : ∃ F0 : Frm, F0 = ⟨[(bx, #[.int .i64 d0, .int .i64 d1, .slice A L.length ca], 50)], []⟩ := ⟨_, rfl⟩
  rw [← hF0] at hst
  have HG : Hid (∀ w' t' h', Wq w w' ⟨bx + 1 + 1 + 1, bx + 1, bx + 1 + 1, d0, d1, A, ca, L⟩ t' h' F0 → ∀ o, w'.cell? ⟨bx, o, none⟩ = (#[.int .i64 d0, .int .i64 d1, .slice A L.length ca] : Array Value)[o]?) := Lib.hid (fun w' t' h' hq o => by
    obtain ⟨_, qv, M, _, hf⟩ := hq
    have := (hf.b (bx, #[.int .i64 d0, .int .i64 d1, .slice A L.length ca], 50) (by rw [hF0]; simp)).1
    exact Lib.cell_of_heap this o)
  have HQ := Lib.hid hst
  have HI : Hid (Inv P K L 0 0 [] 0 ss0) := Lib.hid (Inv.start P K L)
  have cg := HG.out _ _ _ hst
  clear hst hF0
  go_wp2_with fail
  go_loopw [16] (fun x wr => ∃ (T : Nat) (t : Ss), T ≤ L.length ∧ x = .int .i64 T ∧ Hid (Wq w wr ⟨bx + 1 + 1 + 1, bx + 1, bx + 1 + 1, d0, d1, A, ca, L⟩ t 0 F0) ∧ Hid (Inv P K L T 0 [] 0 t)) (fun x _ => L.length - (intOf x).toNat)
  case atStart => exact ⟨0, ss0, by omega, rfl, HQ, HI⟩
  case round =>
    clear HQ HI cg
    obtain ⟨T, t, hT, rfl, HQ, HI⟩ := hrel
    by_cases hlt : T < L.length
    · have e1 : decide ((T : Int) < L.length) = true := by simp; omega
      obtain ⟨qv, c1, hbel, hug⟩ := Wq.cells HQ.out
      have cg := HG.out _ _ _ HQ.out
      have HR := Lib.hid (HRu.out (T : Int) wr hug)
      clear hug c1 hbel
      go_wp2_with fail
      refine HR.out.mono ?_
      rintro e w5 ⟨v, rfl, hv, hb5⟩
      have HQ5 := Lib.hid (fun w' (hb : Below w5.heap.size w5 w') => HQ.out.below (hb5.trans (hb.mono hb5.size)))
      have cg5 := HG.out _ _ _ (HQ.out.below hb5)
      have hcnt := HI.out.cnt
      have hln := HI.out.len
      have hkl := chk_len HI.out.ck
      have hpk := mul_small (P := P) (K := K) (by omega) (by omega)
      have hpk2 : P * K * P ≤ 4096 * 10 := Nat.mul_le_mul hpk lP
      cases hra : ruleAt P K L (T : Int) with
      | none =>
        have HI2 := Lib.hid (begin_none HI.out hra)
        have hbA : Below w5.heap.size w5 (w5.alloc (.cells #[.int .i64 v.kind, .int .i64 v.head, .int .i64 v.who, .int .i64 v.a, .int .i64 v.b, .int .i64 v.via] 44)) := (Below.refl _ _).alloc (Nat.le_refl _) _
        have HQ6 := Lib.hid (HQ5.out _ hbA)
        clear hra hv hb5 HQ5 HQ HI hcnt hln hkl hpk hpk2 HR hbA
        go_wp2_with fail
        go_roundw
        case rel => exact ⟨T + 1, t, by omega, by go_num, HQ6, HI2⟩
        case measure => simp [intOf]; omega
      | some u =>
        have HI2 := Lib.hid (begin_some HI.out hra)
        obtain rfl := hv u hra
        have hbA : Below w5.heap.size w5 (w5.alloc (.cells #[.int .i64 v.kind, .int .i64 v.head, .int .i64 v.who, .int .i64 v.a, .int .i64 v.b, .int .i64 v.via] 44)) := (Below.refl _ _).alloc (Nat.le_refl _) _
        have HQ6 := Lib.hid (HQ5.out _ hbA)
        have HBe := Lib.hid (PfG.begin_ w _ ⟨bx + 1 + 1 + 1, bx + 1, bx + 1 + 1, d0, d1, A, ca, L⟩ t 0 F0 P K T (by omega) (by omega) v HQ6.out (ruleAt_some hra).2.2.2 (by omega) (fun r => by have := hln r; omega) (by omega))
        unfold Ru.val at HBe
        clear hra hv hb5 HQ5 HQ HI hcnt hln hkl hpk hpk2 HR hbA HQ6
        go_wp2_with fail
        refine HBe.out.mono ?_
        rintro e w6 ⟨rfl, hq6⟩
        have HQ7 := Lib.hid hq6
        clear hq6 HBe cg cg5
        go_wp2_with fail
        go_roundw
        case rel => exact ⟨T + 1, _, by omega, by go_num, HQ7, HI2⟩
        case measure => simp [intOf]; omega
    · have e1 : decide ((T : Int) < L.length) = false := by simp; omega
      obtain rfl : T = L.length := by omega
      clear HRu
      go_wp2_with fail
      generalize wr = w7 at *
      obtain ⟨N, hN⟩ : ∃ N, P * K * P = N := ⟨_, rfl⟩
      have lN : N ≤ 600 := by
        rw [← hN]
        exact Nat.mul_le_mul (Nat.mul_le_mul lP lK) lP
      have HN := Lib.hid hN
      clear hN
      go_loopg [7] N (fun gh s7 wr => ∃ (t : Ss) (h c : Nat), N - h ≤ gh ∧ c ≤ h * 120 ∧ Hid (Inv P K L L.length h [] c t) ∧ Hid (Wq w wr ⟨bx + 1 + 1 + 1, bx + 1, bx + 1 + 1, d0, d1, A, ca, L⟩ t h F0))
      case atStart => exact ⟨t, 0, 0, by omega, by omega, HI, HQ⟩
      case round =>
        clear HI HQ
        obtain ⟨t, h, c, hgh, hc, HI, HQ⟩ := hrel
        have hkl := chk_len HI.out.ck
        rw [HN.out] at hkl
        by_cases hh : h < t.known.length
        · obtain ⟨s, hs⟩ : ∃ s, t.known[h]? = some s := ⟨_, List.getElem?_eq_getElem hh⟩
          obtain ⟨g, o, cap, n, cw, hcap, hcm, hpop, hc1⟩ := wq_pop HQ.out hs
          have hD := Lib.hid (HDim.out _ _ _ _ _ HI.out hs)
          obtain ⟨x0, x1, fw0, _, _⟩ := hpop wr (Below.refl _ _)
          have HI9 := Lib.hid (Inv.follow HI.out hs).1
          have hbA : Below wr.heap.size wr (wr.alloc (.cells #[.int .i64 s.role, .int .i64 s.who] 53)) := (Below.refl _ _).alloc (Nat.le_refl _) _
          have hxA := heap_alloc_new wr (.cells #[.int .i64 s.role, .int .i64 s.who] 53)
          obtain ⟨_, _, fw, hp1, hp2⟩ := hpop _ hbA
          have hws : bx + 1 + 1 + 1 < wr.heap.size := World.block_lt_of_cell? _ _ (cw 0)
          have cw2 : ∀ k, (wr.alloc (.cells #[.int .i64 s.role, .int .i64 s.who] 53)).cell? ⟨bx + 1 + 1 + 1, k, none⟩ = (#[.int .i64 d0, .int .i64 d1, .slice A L.length ca, .map (some (bx + 1)), .slice (some ⟨g, o, none⟩) (n + 1) cap, .map (some (bx + 1 + 1))] : Array Value)[k]? := fun k => (hbA.cell (p := ⟨bx + 1 + 1 + 1, k, none⟩) hws).trans (cw k)
          have e1 : decide ((0 : Int) < (n : Int) + 1) = true := by first | (simp; done) | (simp; omega)
          have q1 : (0 : Int) < (n : Int) + 1 := by omega
          have hcm2 : cap ≤ 9223372036854775807 := hcm
          have HP1 := Lib.hid hp1
          have HP2 := Lib.hid hp2
          have HXA := Lib.hid hxA
          have hne : wr.heap.size ≠ bx + 1 + 1 + 1 := by omega
          clear hpop hbA hp1 hp2 hxA hcm HQ fw0
          go_upto_region 11 with fail
          clear cw
          obtain ⟨bb, hbb⟩ : ∃ bb, wr.heap.size = bb := ⟨_, rfl⟩
          simp only [hbb] at HXA hne ⊢
          generalize wr.alloc (.cells #[.int .i64 s.role, .int .i64 s.who] 53) = wa at *
          by_cases hcap1 : cap = 1
          · subst hcap1
            obtain rfl := hc1 rfl
            have HW8 := Lib.hid (HP1.out rfl)
            have HBx8 := Lib.hid ((set_other wa (bx + 1 + 1 + 1) 4 (.slice (some ⟨g, o, none⟩) 0 0) hne).trans HXA.out)
            clear HP1 HP2 HXA hc1 e1 q1
            go_upto_region 12 with fail
            generalize wa.setCell ⟨bx + 1 + 1 + 1, 4, none⟩ (.slice (some ⟨g, o, none⟩) 0 0) = w8 at *
            have cb := fun o => Lib.cell_of_heap HBx8.out o
            have HFo := Lib.hid (PfH.follow w w8 ⟨bx + 1 + 1 + 1, bx + 1, bx + 1 + 1, d0, d1, A, ca, L⟩ t h c F0 P K s hD.out.1 hD.out.2 lP lK hL HW8.out HI.out hs (by omega))
            clear HI hs x0 x1 cw2 fw
            go_wp2_with fail
            refine HFo.out.mono ?_
            rintro e w9 ⟨rfl, hq9⟩
            have HQ9 := Lib.hid hq9
            clear hq9 HFo HW8 cb HBx8
            go_wp2_with fail
            go_roundg (N - (h + 1))
            case measure => omega
            case rel => exact ⟨_, h + 1, c + 2 * L.length, Nat.le_refl _, by omega, HI9, HQ9⟩
          · have HW8 := Lib.hid (HP2.out hcap1)
            have HBx8 := Lib.hid ((set_other wa (bx + 1 + 1 + 1) 4 (.slice (some ⟨g, o + 2, none⟩) n (cap - 1)) hne).trans HXA.out)
            clear HP1 HP2 HXA hc1
            go_upto_region 12 with fail
            generalize wa.setCell ⟨bx + 1 + 1 + 1, 4, none⟩ (.slice (some ⟨g, o + 2, none⟩) n (cap - 1)) = w8 at *
            have cb := fun o => Lib.cell_of_heap HBx8.out o
            have HFo := Lib.hid (PfH.follow w w8 ⟨bx + 1 + 1 + 1, bx + 1, bx + 1 + 1, d0, d1, A, ca, L⟩ t h c F0 P K s hD.out.1 hD.out.2 lP lK hL HW8.out HI.out hs (by omega))
            clear HI hs x0 x1 cw2 fw
            go_wp2_with fail
            refine HFo.out.mono ?_
            rintro e w9 ⟨rfl, hq9⟩
            have HQ9 := Lib.hid hq9
            clear hq9 HFo HW8 cb HBx8
            go_wp2_with fail
            go_roundg (N - (h + 1))
            case measure => omega
            case rel => exact ⟨_, h + 1, c + 2 * L.length, Nat.le_refl _, by omega, HI9, HQ9⟩
        · obtain ⟨rfl, A0, c0, cw⟩ := wq_empty HQ.out (by omega)
          have HEND : Hid (SearchPost P K L w (.returned (.map (some (bx + 1)))) wr) := Lib.hid (by
            obtain ⟨_, qv, M, hk, _⟩ := HQ.out
            exact ⟨bx + 1, t.known, rfl, by have := HBX.out; omega, hk.km, hk.bel, HI.out.ck, fun r x => Inv.der HI.out r x⟩)
          clear HI HQ
          go_wp2_with fail
          go_ret
          exact HEND.out
end Go.Proofs.Ytddjbchlpfaggaa.PfI
