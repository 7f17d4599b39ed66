/- slices.Sort at numbers, by the library's contract: what a row of one's own holds, rising, in that row. Conditions: how long it is. -/
import Derived.Test.YtbgcldckgiiedacDoorWaitNum
import Derived.Test.YtbgcldckgiiedacDoorGraphEq
import Derived.Shelf.Sort.Plain
import Derived.Shelf.Slices.In.SortNone
import Derived.Sort.OwnSortedInts
namespace Go.Proofs.YtbgcldckgiiedacDoor.PWait
open Go Go.RowKit Go.Shelf PPool PGraph
set_option maxRecDepth 100000

def srtRen : Ren := ⟨fun | 0 => 0 | 1 => 1 | 2 => 2 | 111 => 8 | 113 => 23 | 125 => 25 | 128 => 41 | 129 => 42 | 189 => 14 | 215 => 51 | 216 => 38 | 257 => 24 | 294 => 32 | 295 => 33 | 296 => 34 | 297 => 35 | 298 => 36 | 299 => 37 | 300 => 39 | 301 => 40 | 328 => 46 | 329 => 47 | 330 => 48 | 331 => 49 | 332 => 50 | 338 => 44 | 343 => 52 | 347 => 53 | 348 => 54 | 349 => 55 | 350 => 56 | 351 => 57 | 352 => 58 | 353 => 59 | 354 => 60 | 355 => 61 | 356 => 62 | 357 => 63 | 358 => 64 | 359 => 65 | 360 => 66 | 361 => 67 | 366 => 68 | 367 => 72 | n => n, fun | 0 => 0 | 1 => 1 | 2 => 2 | 3 => 3 | 4 => 4 | 5 => 5 | 6 => 6 | 7 => 7 | 8 => 8 | 9 => 9 | 10 => 10 | 11 => 11 | 12 => 12 | 13 => 13 | 14 => 14 | 15 => 15 | 16 => 16 | 17 => 17 | 18 => 18 | 19 => 19 | 20 => 20 | 21 => 21 | 28 => 25 | 34 => 30 | 35 => 38 | 36 => 50 | 46 => 53 | 47 => 52 | 51 => 72 | 52 => 71 | 53 => 57 | 54 => 73 | 80 => 86 | 81 => 92 | 111 => 59 | 112 => 45 | 127 => 96 | 131 => 69 | 134 => 51 | 164 => 101 | 181 => 63 | 182 => 64 | 183 => 65 | 184 => 66 | 185 => 67 | 186 => 68 | 187 => 70 | 218 => 76 | 219 => 77 | 220 => 78 | 221 => 79 | 222 => 80 | 223 => 81 | 228 => 83 | 229 => 84 | 230 => 85 | 233 => 82 | 238 => 87 | 239 => 88 | 240 => 89 | 241 => 90 | 242 => 91 | 243 => 93 | 244 => 94 | 245 => 95 | 246 => 97 | 247 => 98 | 248 => 99 | 249 => 100 | n => n, fun n => n⟩

theorem srtLays : Lays.n189 Tryd.prog srtRen :=
  { mixed := by kernel_rfl,
    f125 := by kernel_rfl,
    f128 := by kernel_rfl,
    f129 := by kernel_rfl,
    f189 := by kernel_rfl,
    f215 := by kernel_rfl,
    f216 := by kernel_rfl,
    f257 := by kernel_rfl,
    f294 := by kernel_rfl,
    f295 := by kernel_rfl,
    f296 := by kernel_rfl,
    f297 := by kernel_rfl,
    f298 := by kernel_rfl,
    f299 := by kernel_rfl,
    f300 := by kernel_rfl,
    f301 := by kernel_rfl,
    f328 := by kernel_rfl,
    f329 := by kernel_rfl,
    f330 := by kernel_rfl,
    f331 := by kernel_rfl,
    f332 := by kernel_rfl,
    f343 := by kernel_rfl,
    t0 := by kernel_rfl,
    a0 := fun _ => by kernel_rfl,
    z0 := fun _ => by kernel_rfl,
    v0 := fun _ => by kernel_rfl,
    t3 := by kernel_rfl,
    a3 := fun _ => by kernel_rfl,
    z3 := fun _ => by kernel_rfl,
    v3 := fun _ => by kernel_rfl,
    t4 := by kernel_rfl,
    a4 := fun _ => by kernel_rfl,
    z4 := fun _ => by kernel_rfl,
    v4 := fun _ => by kernel_rfl,
    t5 := by kernel_rfl,
    a5 := fun _ => by kernel_rfl,
    z5 := fun _ => by kernel_rfl,
    v5 := fun _ => by kernel_rfl,
    t9 := by kernel_rfl,
    a9 := fun _ => by kernel_rfl,
    z9 := fun _ => by kernel_rfl,
    v9 := fun _ => by kernel_rfl,
    t28 := by kernel_rfl,
    a28 := fun _ => by kernel_rfl,
    z28 := fun _ => by kernel_rfl,
    v28 := fun _ => by kernel_rfl,
    t46 := by kernel_rfl,
    a46 := fun _ => by kernel_rfl,
    z46 := fun _ => by kernel_rfl,
    v46 := fun _ => by kernel_rfl,
    t51 := by kernel_rfl,
    a51 := fun _ => by kernel_rfl,
    z51 := fun _ => by kernel_rfl,
    v51 := fun _ => by kernel_rfl,
    t53 := by kernel_rfl,
    a53 := fun _ => by kernel_rfl,
    z53 := fun _ => by kernel_rfl,
    v53 := fun _ => by kernel_rfl,
    t131 := by kernel_rfl,
    a131 := fun _ => by kernel_rfl,
    z131 := fun _ => by kernel_rfl,
    v131 := fun _ => by kernel_rfl,
    t182 := by kernel_rfl,
    a182 := fun _ => by kernel_rfl,
    z182 := fun _ => by kernel_rfl,
    v182 := fun _ => by kernel_rfl,
    t183 := by kernel_rfl,
    a183 := fun _ => by kernel_rfl,
    z183 := fun _ => by kernel_rfl,
    v183 := fun _ => by kernel_rfl,
    t218 := by kernel_rfl,
    a218 := fun _ => by kernel_rfl,
    z218 := fun _ => by kernel_rfl,
    v218 := fun _ => by kernel_rfl,
    t222 := by kernel_rfl,
    a222 := fun _ => by kernel_rfl,
    z222 := fun _ => by kernel_rfl,
    v222 := fun _ => by kernel_rfl,
    t228 := by kernel_rfl,
    a228 := fun _ => by kernel_rfl,
    z228 := fun _ => by kernel_rfl,
    v228 := fun _ => by kernel_rfl,
    t229 := by kernel_rfl,
    a229 := fun _ => by kernel_rfl,
    z229 := fun _ => by kernel_rfl,
    v229 := fun _ => by kernel_rfl }

theorem srt_is : srtRen.f 189 = 14 := rfl
theorem sort_any (w : World) (base : Nat) (v : Value) (l : List Nat) (h : OwnNats w base v l) (hl : l.length ≤ 100000) :
    Calls Tryd.prog 14 #[v] w fun e w' => e = .returned (.tuple #[]) ∧ OwnNats w' base v (Wa.rise l) ∧ w.grownBy w' v.ownBlock := by
  have hlen := Wa.rise_len l
  rcases h.2 with ⟨rfl, h0⟩ | ⟨g, cap, cur, rfl, hbase, hb, h1, h2, h3, h4⟩
  · have e : l = [] := List.eq_nil_of_length_eq_zero h0
    subst e
    have := Any.slices_Sort_int_none srtLays none 0 w
    rw [srt_is] at this
    refine this.mono ?_
    rintro e w' ⟨rfl, rfl⟩
    exact ⟨rfl, by rw [Wa.rise_nil]; exact OwnR.nil _ _, ⟨rfl, rfl, rfl, Nat.le_refl _, fun _ _ _ => rfl⟩⟩
  · have hg : g < w.heap.size := (Array.getElem?_eq_some_iff.1 hb).1
    have e1 : (ints l).map (Value.int .i64) = l.map nc := by unfold ints; rw [List.map_map]; rfl
    have hH := holds_of_blockI (ss := ints l) hb (by rw [ints_len, e1]; simpa using h4)
    have := Any.slices_Sort_int srtLays g 0 cap (ints l) w hH hg (by rw [ints_len]; omega)
    rw [srt_is, ints_len] at this
    refine this.mono ?_
    rintro e w' ⟨rfl, n, os, rfl⟩
    have e2 : (ints l).mergeSort (fun x y => decide (x ≤ y)) = ints (Wa.rise l) := Wa.rise_ints l
    refine ⟨rfl, ?_, grownBy_sortedI _⟩
    rw [e2]
    have := ownsRow_sortedI (n := n) (os := os) (ss := ints l) (ts := ints (Wa.rise l)) (by rw [ints_len, ints_len, hlen]) hbase hb (by rw [ints_len]; exact h1) h2 h3
    rw [ints_len] at this
    show World.ownsRow _ _ _ _ _ _ _
    rw [hlen, show (Wa.rise l).map nc = (ints (Wa.rise l)).map (Value.int .i64) from by unfold ints; rw [List.map_map]; rfl]
    exact this
end Go.Proofs.YtbgcldckgiiedacDoor.PWait
