/- slices.Sort at numbers, by the library's contract: what a row of one's own holds, rising, in that row. Conditions: how long it is. -/
import Derived.Test.YtbgcldckgiiedajDoorWaitNum
import Derived.Test.YtbgcldckgiiedajDoorGraphEq
import Derived.Shelf.Sort.Plain
import Derived.Shelf.Slices.In.SortNone
import Derived.Sort.OwnSortedInts
namespace Go.Proofs.YtbgcldckgiiedajDoor.PWait
open Go Go.RowKit Go.Shelf PPool PGraph
set_option maxRecDepth 100000

def srtRen : Ren := ⟨fun | 0 => 0 | 1 => 1 | 2 => 2 | 107 => 8 | 108 => 16 | 111 => 6 | 113 => 27 | 125 => 29 | 128 => 41 | 129 => 42 | 189 => 18 | 215 => 49 | 216 => 38 | 257 => 28 | 294 => 32 | 295 => 33 | 296 => 34 | 297 => 35 | 298 => 36 | 299 => 37 | 300 => 39 | 301 => 40 | 328 => 44 | 329 => 45 | 330 => 46 | 331 => 47 | 332 => 48 | 338 => 24 | 343 => 50 | 347 => 51 | 348 => 52 | 349 => 53 | 350 => 54 | 351 => 55 | 352 => 56 | 353 => 57 | 354 => 58 | 355 => 59 | 356 => 60 | 357 => 61 | 358 => 62 | 359 => 63 | 360 => 64 | 361 => 65 | 366 => 66 | 367 => 70 | n => n, fun | 0 => 0 | 1 => 1 | 2 => 2 | 3 => 3 | 4 => 4 | 5 => 5 | 6 => 6 | 7 => 7 | 8 => 8 | 9 => 9 | 10 => 10 | 11 => 11 | 12 => 12 | 13 => 13 | 14 => 14 | 15 => 15 | 16 => 16 | 17 => 17 | 18 => 18 | 19 => 19 | 20 => 20 | 21 => 21 | 28 => 23 | 29 => 31 | 30 => 42 | 34 => 29 | 35 => 44 | 36 => 54 | 46 => 57 | 47 => 56 | 51 => 70 | 52 => 69 | 53 => 37 | 54 => 49 | 80 => 81 | 81 => 87 | 111 => 48 | 112 => 36 | 127 => 91 | 131 => 67 | 134 => 55 | 164 => 96 | 181 => 61 | 182 => 62 | 183 => 63 | 184 => 64 | 185 => 65 | 186 => 66 | 187 => 68 | 218 => 72 | 219 => 73 | 220 => 74 | 221 => 75 | 222 => 76 | 223 => 77 | 228 => 78 | 229 => 79 | 230 => 80 | 233 => 58 | 238 => 82 | 239 => 83 | 240 => 84 | 241 => 85 | 242 => 86 | 243 => 88 | 244 => 89 | 245 => 90 | 246 => 92 | 247 => 93 | 248 => 94 | 249 => 95 | n => n, fun n => n⟩

theorem srtLays : Lays.n189 Tryd.prog srtRen :=
  { mixed := by kernel_rfl,
    f125 := by kernel_rfl,
    f128 := by kernel_rfl,
    f129 := by kernel_rfl,
    f189 := by kernel_rfl,
    f215 := by kernel_rfl,
    f216 := by kernel_rfl,
    f257 := by kernel_rfl,
    f294 := by kernel_rfl,
    f295 := by kernel_rfl,
    f296 := by kernel_rfl,
    f297 := by kernel_rfl,
    f298 := by kernel_rfl,
    f299 := by kernel_rfl,
    f300 := by kernel_rfl,
    f301 := by kernel_rfl,
    f328 := by kernel_rfl,
    f329 := by kernel_rfl,
    f330 := by kernel_rfl,
    f331 := by kernel_rfl,
    f332 := by kernel_rfl,
    f343 := by kernel_rfl,
    t0 := by kernel_rfl,
    a0 := fun _ => by kernel_rfl,
    z0 := fun _ => by kernel_rfl,
    v0 := fun _ => by kernel_rfl,
    t3 := by kernel_rfl,
    a3 := fun _ => by kernel_rfl,
    z3 := fun _ => by kernel_rfl,
    v3 := fun _ => by kernel_rfl,
    t4 := by kernel_rfl,
    a4 := fun _ => by kernel_rfl,
    z4 := fun _ => by kernel_rfl,
    v4 := fun _ => by kernel_rfl,
    t5 := by kernel_rfl,
    a5 := fun _ => by kernel_rfl,
    z5 := fun _ => by kernel_rfl,
    v5 := fun _ => by kernel_rfl,
    t9 := by kernel_rfl,
    a9 := fun _ => by kernel_rfl,
    z9 := fun _ => by kernel_rfl,
    v9 := fun _ => by kernel_rfl,
    t28 := by kernel_rfl,
    a28 := fun _ => by kernel_rfl,
    z28 := fun _ => by kernel_rfl,
    v28 := fun _ => by kernel_rfl,
    t46 := by kernel_rfl,
    a46 := fun _ => by kernel_rfl,
    z46 := fun _ => by kernel_rfl,
    v46 := fun _ => by kernel_rfl,
    t51 := by kernel_rfl,
    a51 := fun _ => by kernel_rfl,
    z51 := fun _ => by kernel_rfl,
    v51 := fun _ => by kernel_rfl,
    t53 := by kernel_rfl,
    a53 := fun _ => by kernel_rfl,
    z53 := fun _ => by kernel_rfl,
    v53 := fun _ => by kernel_rfl,
    t131 := by kernel_rfl,
    a131 := fun _ => by kernel_rfl,
    z131 := fun _ => by kernel_rfl,
    v131 := fun _ => by kernel_rfl,
    t182 := by kernel_rfl,
    a182 := fun _ => by kernel_rfl,
    z182 := fun _ => by kernel_rfl,
    v182 := fun _ => by kernel_rfl,
    t183 := by kernel_rfl,
    a183 := fun _ => by kernel_rfl,
    z183 := fun _ => by kernel_rfl,
    v183 := fun _ => by kernel_rfl,
    t218 := by kernel_rfl,
    a218 := fun _ => by kernel_rfl,
    z218 := fun _ => by kernel_rfl,
    v218 := fun _ => by kernel_rfl,
    t222 := by kernel_rfl,
    a222 := fun _ => by kernel_rfl,
    z222 := fun _ => by kernel_rfl,
    v222 := fun _ => by kernel_rfl,
    t228 := by kernel_rfl,
    a228 := fun _ => by kernel_rfl,
    z228 := fun _ => by kernel_rfl,
    v228 := fun _ => by kernel_rfl,
    t229 := by kernel_rfl,
    a229 := fun _ => by kernel_rfl,
    z229 := fun _ => by kernel_rfl,
    v229 := fun _ => by kernel_rfl }

theorem srt_is : srtRen.f 189 = 18 := rfl
theorem sort_any (w : World) (base : Nat) (v : Value) (l : List Nat) (h : OwnNats w base v l) (hl : l.length ≤ 100000) :
    Calls Tryd.prog 18 #[v] w fun e w' => e = .returned (.tuple #[]) ∧ OwnNats w' base v (Wa.rise l) ∧ w.grownBy w' v.ownBlock := by
  have hlen := Wa.rise_len l
  rcases h.2 with ⟨rfl, h0⟩ | ⟨g, cap, cur, rfl, hbase, hb, h1, h2, h3, h4⟩
  · have e : l = [] := List.eq_nil_of_length_eq_zero h0
    subst e
    have := Any.slices_Sort_int_none srtLays none 0 w
    rw [srt_is] at this
    refine this.mono ?_
    rintro e w' ⟨rfl, rfl⟩
    exact ⟨rfl, by rw [Wa.rise_nil]; exact OwnR.nil _ _, ⟨rfl, rfl, rfl, Nat.le_refl _, fun _ _ _ => rfl⟩⟩
  · have hg : g < w.heap.size := (Array.getElem?_eq_some_iff.1 hb).1
    have e1 : (ints l).map (Value.int .i64) = l.map nc := by unfold ints; rw [List.map_map]; rfl
    have hH := holds_of_blockI (ss := ints l) hb (by rw [ints_len, e1]; simpa using h4)
    have := Any.slices_Sort_int srtLays g 0 cap (ints l) w hH hg (by rw [ints_len]; omega)
    rw [srt_is, ints_len] at this
    refine this.mono ?_
    rintro e w' ⟨rfl, n, os, rfl⟩
    have e2 : (ints l).mergeSort (fun x y => decide (x ≤ y)) = ints (Wa.rise l) := Wa.rise_ints l
    refine ⟨rfl, ?_, grownBy_sortedI _⟩
    rw [e2]
    have := ownsRow_sortedI (n := n) (os := os) (ss := ints l) (ts := ints (Wa.rise l)) (by rw [ints_len, ints_len, hlen]) hbase hb (by rw [ints_len]; exact h1) h2 h3
    rw [ints_len] at this
    show World.ownsRow _ _ _ _ _ _ _
    rw [hlen, show (Wa.rise l).map nc = (ints (Wa.rise l)).map (Value.int .i64) from by unfold ints; rw [List.map_map]; rfl]
    exact this
end Go.Proofs.YtbgcldckgiiedajDoor.PWait
