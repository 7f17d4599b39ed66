/- strings.Repeat of one nought, by the shelf's contract. -/
import Derived.Test.YthfpinjegfgeiaaProg
import Derived.Test.YthfpinjegfgeiaaSectMem
import Derived.Shelf.Strings.Repeat
import Derived.KernelRfl
namespace Go.Proofs.Ythfpinjegfgeiaa
open Go Go.RowKit Go.Shelf
set_option maxRecDepth 100000

def repRen : Ren := ⟨fun | 0 => 0 | 1 => 1 | 2 => 2 | 99 => 84 | 105 => 75 | 165 => 85 | 166 => 86 | 169 => 88 | 170 => 87 | 193 => 35 | 206 => 92 | 212 => 83 | 240 => 93 | 241 => 94 | 263 => 90 | 264 => 91 | 276 => 95 | 277 => 96 | 316 => 74 | 347 => 97 | 348 => 98 | 349 => 99 | 350 => 100 | 351 => 101 | 352 => 102 | 353 => 103 | 354 => 104 | 355 => 105 | 356 => 106 | 357 => 107 | 358 => 108 | 359 => 109 | 360 => 110 | 361 => 111 | 362 => 112 | 366 => 113 | n => n, fun | 0 => 0 | 1 => 1 | 2 => 2 | 3 => 3 | 4 => 4 | 5 => 5 | 6 => 6 | 7 => 7 | 8 => 8 | 9 => 9 | 10 => 10 | 11 => 11 | 12 => 12 | 13 => 13 | 14 => 14 | 15 => 15 | 16 => 16 | 17 => 17 | 18 => 18 | 19 => 19 | 20 => 20 | 21 => 21 | 22 => 112 | 26 => 102 | 28 => 55 | 31 => 54 | 37 => 72 | 46 => 71 | 51 => 36 | 53 => 22 | 69 => 32 | 70 => 113 | 71 => 114 | 72 => 115 | 73 => 53 | 75 => 117 | 76 => 118 | 77 => 119 | 80 => 120 | 81 => 46 | 83 => 34 | 101 => 66 | 102 => 91 | 103 => 92 | 109 => 110 | 110 => 111 | 111 => 81 | 127 => 109 | 131 => 87 | 146 => 73 | 147 => 123 | 148 => 124 | 149 => 125 | 164 => 126 | 165 => 127 | 166 => 128 | 233 => 83 | 238 => 129 | 239 => 130 | 240 => 131 | 241 => 132 | 242 => 133 | 243 => 134 | 244 => 135 | 245 => 136 | 246 => 137 | 247 => 138 | 248 => 139 | 249 => 140 | n => n, fun n => n⟩

theorem repLays : Lays.n105 Try.prog repRen :=
  { mixed := by kernel_rfl,
    f99 := by kernel_rfl,
    f105 := by kernel_rfl,
    f165 := by kernel_rfl,
    f166 := by kernel_rfl,
    f169 := by kernel_rfl,
    f170 := by kernel_rfl,
    f206 := by kernel_rfl,
    f212 := by kernel_rfl,
    f240 := by kernel_rfl,
    f241 := by kernel_rfl,
    f263 := by kernel_rfl,
    f264 := by kernel_rfl,
    f276 := by kernel_rfl,
    f277 := by kernel_rfl,
    t0 := by kernel_rfl,
    a0 := fun _ => by kernel_rfl,
    z0 := fun _ => by kernel_rfl,
    v0 := fun _ => by kernel_rfl,
    t3 := by kernel_rfl,
    a3 := fun _ => by kernel_rfl,
    z3 := fun _ => by kernel_rfl,
    v3 := fun _ => by kernel_rfl,
    t4 := by kernel_rfl,
    a4 := fun _ => by kernel_rfl,
    z4 := fun _ => by kernel_rfl,
    v4 := fun _ => by kernel_rfl,
    t5 := by kernel_rfl,
    a5 := fun _ => by kernel_rfl,
    z5 := fun _ => by kernel_rfl,
    v5 := fun _ => by kernel_rfl,
    t9 := by kernel_rfl,
    a9 := fun _ => by kernel_rfl,
    z9 := fun _ => by kernel_rfl,
    v9 := fun _ => by kernel_rfl,
    t20 := by kernel_rfl,
    a20 := fun _ => by kernel_rfl,
    z20 := fun _ => by kernel_rfl,
    v20 := fun _ => by kernel_rfl,
    t37 := by kernel_rfl,
    a37 := fun _ => by kernel_rfl,
    z37 := fun _ => by kernel_rfl,
    v37 := fun _ => by kernel_rfl,
    t46 := by kernel_rfl,
    a46 := fun _ => by kernel_rfl,
    z46 := fun _ => by kernel_rfl,
    v46 := fun _ => by kernel_rfl,
    t51 := by kernel_rfl,
    a51 := fun _ => by kernel_rfl,
    z51 := fun _ => by kernel_rfl,
    v51 := fun _ => by kernel_rfl,
    t53 := by kernel_rfl,
    a53 := fun _ => by kernel_rfl,
    z53 := fun _ => by kernel_rfl,
    v53 := fun _ => by kernel_rfl,
    t70 := by kernel_rfl,
    a70 := fun _ => by kernel_rfl,
    z70 := fun _ => by kernel_rfl,
    v70 := fun _ => by kernel_rfl,
    t72 := by kernel_rfl,
    a72 := fun _ => by kernel_rfl,
    z72 := fun _ => by kernel_rfl,
    v72 := fun _ => by kernel_rfl,
    t75 := by kernel_rfl,
    a75 := fun _ => by kernel_rfl,
    z75 := fun _ => by kernel_rfl,
    v75 := fun _ => by kernel_rfl,
    t76 := by kernel_rfl,
    a76 := fun _ => by kernel_rfl,
    z76 := fun _ => by kernel_rfl,
    v76 := fun _ => by kernel_rfl,
    t109 := by kernel_rfl,
    a109 := fun _ => by kernel_rfl,
    z109 := fun _ => by kernel_rfl,
    v109 := fun _ => by kernel_rfl,
    t127 := by kernel_rfl,
    a127 := fun _ => by kernel_rfl,
    z127 := fun _ => by kernel_rfl,
    v127 := fun _ => by kernel_rfl,
    t146 := by kernel_rfl,
    a146 := fun _ => by kernel_rfl,
    z146 := fun _ => by kernel_rfl,
    v146 := fun _ => by kernel_rfl,
    t148 := by kernel_rfl,
    a148 := fun _ => by kernel_rfl,
    z148 := fun _ => by kernel_rfl,
    v148 := fun _ => by kernel_rfl,
    t164 := by kernel_rfl,
    a164 := fun _ => by kernel_rfl,
    z164 := fun _ => by kernel_rfl,
    v164 := fun _ => by kernel_rfl }

theorem repExtra : Builder.Extra Try.prog repRen where
  sizeBuilder := by kernel_rfl
  liesBuilder := by kernel_rfl
  t5 := by kernel_rfl
  a5 := fun _ => by kernel_rfl
  z5 := fun _ => by kernel_rfl
  v5 := fun _ => by kernel_rfl
  infoByte := by kernel_rfl
  cellsByte := by kernel_rfl
  sizeByte := by kernel_rfl
  neB5 := by decide

theorem rep_zeros : ∀ c, Lib.repeatL [0] c = List.replicate c (0 : UInt8)
  | 0 => rfl
  | c + 1 => by rw [Lib.repeatL, rep_zeros c]; rfl

theorem repeat_any (c : Nat) (hc : c ≤ 1000) (w : World) : Calls Try.prog 75 #[.string ⟨#[0]⟩, .int .i64 (c : Int)] w fun e w' => e = .returned (.string (zeros c)) ∧ Below w.heap.size w w' := by
  have h := Any.strings_Repeat repLays repExtra ⟨#[0]⟩ c w (by omega) (by show 1 * c ≤ _; omega)
  have e : (⟨(Lib.repeatL (⟨#[0]⟩ : ByteArray).data.toList c).toArray⟩ : ByteArray) = zeros c := by
    show (⟨(Lib.repeatL [0] c).toArray⟩ : ByteArray) = zeros c
    rw [rep_zeros]; rfl
  rw [e] at h
  exact h

end Go.Proofs.Ythfpinjegfgeiaa
