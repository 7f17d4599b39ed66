/- strings.Repeat of one nought, by the shelf's contract. -/
import Derived.Test.YthfpinjegfgeiafProg
import Derived.Test.YthfpinjegfgeiafSectMem
import Derived.Shelf.Strings.Repeat
import Derived.KernelRfl
namespace Go.Proofs.Ythfpinjegfgeiaf
open Go Go.RowKit Go.Shelf
set_option maxRecDepth 100000

def repRen : Ren := ⟨fun | 0 => 0 | 1 => 1 | 2 => 2 | 99 => 36 | 105 => 16 | 109 => 42 | 110 => 20 | 165 => 37 | 166 => 38 | 169 => 40 | 170 => 39 | 193 => 25 | 206 => 55 | 212 => 35 | 240 => 56 | 241 => 57 | 263 => 53 | 264 => 54 | 276 => 64 | 277 => 65 | 316 => 52 | 347 => 71 | 348 => 72 | 349 => 73 | 350 => 74 | 351 => 75 | 352 => 76 | 353 => 77 | 354 => 78 | 355 => 79 | 356 => 80 | 357 => 81 | 358 => 82 | 359 => 83 | 360 => 84 | 361 => 85 | 362 => 86 | 366 => 87 | n => n, fun | 0 => 0 | 1 => 1 | 2 => 2 | 3 => 3 | 4 => 4 | 5 => 5 | 6 => 6 | 7 => 7 | 8 => 8 | 9 => 9 | 10 => 10 | 11 => 11 | 12 => 12 | 13 => 13 | 14 => 14 | 15 => 15 | 16 => 16 | 17 => 17 | 18 => 18 | 19 => 19 | 20 => 20 | 21 => 21 | 22 => 27 | 26 => 42 | 31 => 40 | 32 => 85 | 33 => 48 | 37 => 30 | 46 => 74 | 51 => 22 | 53 => 96 | 69 => 63 | 70 => 77 | 71 => 78 | 72 => 79 | 73 => 45 | 75 => 81 | 76 => 82 | 77 => 83 | 80 => 84 | 81 => 54 | 83 => 103 | 101 => 57 | 102 => 93 | 109 => 75 | 110 => 76 | 111 => 68 | 127 => 99 | 131 => 91 | 146 => 61 | 147 => 95 | 148 => 97 | 149 => 98 | 164 => 108 | 165 => 109 | 166 => 110 | 233 => 70 | 238 => 118 | 239 => 119 | 240 => 120 | 241 => 121 | 242 => 122 | 243 => 123 | 244 => 124 | 245 => 125 | 246 => 126 | 247 => 127 | 248 => 128 | 249 => 129 | n => n, fun n => n⟩

theorem repLays : Lays.n105 Try.prog repRen :=
  { mixed := by kernel_rfl,
    f99 := by kernel_rfl,
    f105 := by kernel_rfl,
    f165 := by kernel_rfl,
    f166 := by kernel_rfl,
    f169 := by kernel_rfl,
    f170 := by kernel_rfl,
    f206 := by kernel_rfl,
    f212 := by kernel_rfl,
    f240 := by kernel_rfl,
    f241 := by kernel_rfl,
    f263 := by kernel_rfl,
    f264 := by kernel_rfl,
    f276 := by kernel_rfl,
    f277 := by kernel_rfl,
    t0 := by kernel_rfl,
    a0 := fun _ => by kernel_rfl,
    z0 := fun _ => by kernel_rfl,
    v0 := fun _ => by kernel_rfl,
    t3 := by kernel_rfl,
    a3 := fun _ => by kernel_rfl,
    z3 := fun _ => by kernel_rfl,
    v3 := fun _ => by kernel_rfl,
    t4 := by kernel_rfl,
    a4 := fun _ => by kernel_rfl,
    z4 := fun _ => by kernel_rfl,
    v4 := fun _ => by kernel_rfl,
    t5 := by kernel_rfl,
    a5 := fun _ => by kernel_rfl,
    z5 := fun _ => by kernel_rfl,
    v5 := fun _ => by kernel_rfl,
    t9 := by kernel_rfl,
    a9 := fun _ => by kernel_rfl,
    z9 := fun _ => by kernel_rfl,
    v9 := fun _ => by kernel_rfl,
    t20 := by kernel_rfl,
    a20 := fun _ => by kernel_rfl,
    z20 := fun _ => by kernel_rfl,
    v20 := fun _ => by kernel_rfl,
    t37 := by kernel_rfl,
    a37 := fun _ => by kernel_rfl,
    z37 := fun _ => by kernel_rfl,
    v37 := fun _ => by kernel_rfl,
    t46 := by kernel_rfl,
    a46 := fun _ => by kernel_rfl,
    z46 := fun _ => by kernel_rfl,
    v46 := fun _ => by kernel_rfl,
    t51 := by kernel_rfl,
    a51 := fun _ => by kernel_rfl,
    z51 := fun _ => by kernel_rfl,
    v51 := fun _ => by kernel_rfl,
    t53 := by kernel_rfl,
    a53 := fun _ => by kernel_rfl,
    z53 := fun _ => by kernel_rfl,
    v53 := fun _ => by kernel_rfl,
    t70 := by kernel_rfl,
    a70 := fun _ => by kernel_rfl,
    z70 := fun _ => by kernel_rfl,
    v70 := fun _ => by kernel_rfl,
    t72 := by kernel_rfl,
    a72 := fun _ => by kernel_rfl,
    z72 := fun _ => by kernel_rfl,
    v72 := fun _ => by kernel_rfl,
    t75 := by kernel_rfl,
    a75 := fun _ => by kernel_rfl,
    z75 := fun _ => by kernel_rfl,
    v75 := fun _ => by kernel_rfl,
    t76 := by kernel_rfl,
    a76 := fun _ => by kernel_rfl,
    z76 := fun _ => by kernel_rfl,
    v76 := fun _ => by kernel_rfl,
    t109 := by kernel_rfl,
    a109 := fun _ => by kernel_rfl,
    z109 := fun _ => by kernel_rfl,
    v109 := fun _ => by kernel_rfl,
    t127 := by kernel_rfl,
    a127 := fun _ => by kernel_rfl,
    z127 := fun _ => by kernel_rfl,
    v127 := fun _ => by kernel_rfl,
    t146 := by kernel_rfl,
    a146 := fun _ => by kernel_rfl,
    z146 := fun _ => by kernel_rfl,
    v146 := fun _ => by kernel_rfl,
    t148 := by kernel_rfl,
    a148 := fun _ => by kernel_rfl,
    z148 := fun _ => by kernel_rfl,
    v148 := fun _ => by kernel_rfl,
    t164 := by kernel_rfl,
    a164 := fun _ => by kernel_rfl,
    z164 := fun _ => by kernel_rfl,
    v164 := fun _ => by kernel_rfl }

theorem repExtra : Builder.Extra Try.prog repRen where
  sizeBuilder := by kernel_rfl
  liesBuilder := by kernel_rfl
  t5 := by kernel_rfl
  a5 := fun _ => by kernel_rfl
  z5 := fun _ => by kernel_rfl
  v5 := fun _ => by kernel_rfl
  infoByte := by kernel_rfl
  cellsByte := by kernel_rfl
  sizeByte := by kernel_rfl
  neB5 := by decide

theorem rep_zeros : ∀ c, Lib.repeatL [0] c = List.replicate c (0 : UInt8)
  | 0 => rfl
  | c + 1 => by rw [Lib.repeatL, rep_zeros c]; rfl

theorem repeat_any (c : Nat) (hc : c ≤ 1000) (w : World) : Calls Try.prog 16 #[.string ⟨#[0]⟩, .int .i64 (c : Int)] w fun e w' => e = .returned (.string (zeros c)) ∧ Below w.heap.size w w' := by
  have h := Any.strings_Repeat repLays repExtra ⟨#[0]⟩ c w (by omega) (by show 1 * c ≤ _; omega)
  have e : (⟨(Lib.repeatL (⟨#[0]⟩ : ByteArray).data.toList c).toArray⟩ : ByteArray) = zeros c := by
    show (⟨(Lib.repeatL [0] c).toArray⟩ : ByteArray) = zeros c
    rw [rep_zeros]; rfl
  rw [e] at h
  exact h

end Go.Proofs.Ythfpinjegfgeiaf
