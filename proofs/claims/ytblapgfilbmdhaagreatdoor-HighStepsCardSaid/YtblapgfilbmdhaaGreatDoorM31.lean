/- How sem's order of rules stands, by contract; it fits the library's sort. -/
import Derived.Test.YtblapgfilbmdhaaGreatDoorM04
import Derived.Test.YtblapgfilbmdhaaGreatDoorM11
import Derived.Test.YtblapgfilbmdhaaGreatDoorM23
import Derived.Shelf.SlSortCmp.WholeK
set_option linter.unusedVariables false
set_option linter.unusedSimpArgs false
namespace Go.Proofs.YtblapgfilbmdhaaGreatDoor.RuO
open Go.RowKit Go.Sort Go.Proofs Plain SynP Grown SynD Syn1 Syn2 TblC
instance : Inhabited Ru := ⟨zeroU⟩
def cmpU (u v : Ru) : Int := orL [cmpN u.kind v.kind, cmpN u.head v.head, cmpN u.who v.who, cmpN u.a v.a, cmpN u.b v.b, cmpN u.via v.via]
theorem tri_U : Tri cmpU :=
  tri_cons (tri_by Ru.kind tri_N) (tri_cons (tri_by Ru.head tri_N) (tri_cons (tri_by Ru.who tri_N) (tri_cons (tri_by Ru.a tri_N) (tri_cons (tri_by Ru.b tri_N) (tri_cons (tri_by Ru.via tri_N) tri_nil)))))
theorem swo_U : SWO (ltOf cmpU) := swo_of tri_U
set_option maxRecDepth 100000 in
set_option maxHeartbeats 1000000 in
theorem order (s t : Ru) (w : World) : Calls Tryz.prog 178 #[s.val, t.val] w fun e w' => e = .returned (.int .i64 (cmpU s t)) ∧ Grew w w' := by
  obtain ⟨k1, h1, x1, a1, b1, v1⟩ := s
  obtain ⟨k2, h2, x2, a2, b2, v2⟩ := t
  have hor : ∀ (w' : World) (n : Nat), n = w'.heap.size → Calls Tryz.prog 205 #[.slice (some ⟨n, 0, none⟩) 6 6] (w'.alloc (.cells #[.int .i64 (cmpN k1 k2), .int .i64 (cmpN h1 h2), .int .i64 (cmpN x1 x2), .int .i64 (cmpN a1 a2), .int .i64 (cmpN b1 b2), .int .i64 (cmpN v1 v2)] 3)).drew fun e w2 => e = .returned (.int .i64 (cmpU ⟨k1, h1, x1, a1, b1, v1⟩ ⟨k2, h2, x2, a2, b2, v2⟩)) ∧ (w'.alloc (.cells #[.int .i64 (cmpN k1 k2), .int .i64 (cmpN h1 h2), .int .i64 (cmpN x1 x2), .int .i64 (cmpN a1 a2), .int .i64 (cmpN b1 b2), .int .i64 (cmpN v1 v2)] 3)).drew = w2 := fun w' n hn =>
    or_ n 6 [cmpN k1 k2, cmpN h1 h2, cmpN x1 x2, cmpN a1 a2, cmpN b1 b2, cmpN v1 v2] _ (by simp) (irow_new w' [cmpN k1 k2, cmpN h1 h2, cmpN x1 x2, cmpN a1 a2, cmpN b1 b2, cmpN v1 v2] _ hn)
  have Hor := Lib.hid hor
  clear hor
  generalize cmpU ⟨k1, h1, x1, a1, b1, v1⟩ ⟨k2, h2, x2, a2, b2, v2⟩ = res at *
  unfold Ru.val
  go_enter Tryz.func178, Tryz.ntmps178
  go_wp2
  have hst := start2 w #[.int .i64 k1, .int .i64 h1, .int .i64 x1, .int .i64 a1, .int .i64 b1, .int .i64 v1] #[.int .i64 k2, .int .i64 h2, .int .i64 x2, .int .i64 a2, .int .i64 b2, .int .i64 v2] 150
  go_region_held3 (fun w' => Grew ((w.alloc (.cells #[.int .i64 k1, .int .i64 h1, .int .i64 x1, .int .i64 a1, .int .i64 b1, .int .i64 v1] 150)).alloc (.cells #[.int .i64 k2, .int .i64 h2, .int .i64 x2, .int .i64 a2, .int .i64 b2, .int .i64 v2] 150)) w' ∧ (∀ o, w'.cell? ⟨w.heap.size, o, none⟩ = (#[.int .i64 k1, .int .i64 h1, .int .i64 x1, .int .i64 a1, .int .i64 b1, .int .i64 v1] : Array Value)[o]?) ∧ (∀ o, w'.cell? ⟨w.heap.size + 1, o, none⟩ = (#[.int .i64 k2, .int .i64 h2, .int .i64 x2, .int .i64 a2, .int .i64 b2, .int .i64 v2] : Array Value)[o]?))
    (first | exact hst | assumption | exact keep2 (by assumption) (by simp) (Grew.alloc_drew _ _))
    (first | (go_at_call 207; ((with_reducible refine (compareN _ _ _).mono ?_); rintro e w' ⟨rfl, rfl⟩)) | (go_at_call 205; refine (Hor.out _ _ (by simp)).mono ?_; rintro e w' ⟨rfl, rfl⟩))
  rename_i hHeld
  go_wp2
  go_ret
  exact ⟨rfl, (((Grew.refl _).alloc _).alloc _).trans hHeld.1⟩
def Ru.cl (u : Ru) : List Value := [.int .i64 u.kind, .int .i64 u.head, .int .i64 u.who, .int .i64 u.a, .int .i64 u.b, .int .i64 u.via]
theorem len6 (u : Ru) : (Ru.cl u).length = 6 := rfl
theorem cmpLaysU (blk off size : Nat) (w : World) : CmpLays Tryz.prog 178 #[] Ru.cl 6 cmpU blk off size w := fun m os dk _ x y =>
  (order x y (sortWorldK Ru.cl 6 w blk off m dk os)).mono fun _ _ ⟨he, hg⟩ => ⟨he, by
    obtain ⟨⟨q, os'⟩, rfl⟩ := hg
    exact ⟨q, os', rfl⟩⟩
end Go.Proofs.YtblapgfilbmdhaaGreatDoor.RuO
