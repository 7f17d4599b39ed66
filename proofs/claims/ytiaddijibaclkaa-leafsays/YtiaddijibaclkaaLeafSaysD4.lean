/- quirlaw.LeafSays, a part of it, walked. What Put says, held against what is wanted. -/
import Derived.Test.YtiaddijibaclkaaLeafSaysD5
namespace Go.Proofs.Ytiaddijibaclkaa.PLeaf
open Go Go.RowKit
set_option maxRecDepth 100000

set_option maxHeartbeats 8000000 in
theorem tail22 {x0 x3 x5 x6 x7 x8 x9 x10 x11 x19 x20 x21 x22 x23 x24 x28 x29 x30 x31 x32 x33 x34 x35 x36 x37 x38 x39 x40 x41 x42 x43 x44 x45 x46 x47 x48 x49 x50 x51 x52 x53 x54 x55 x56 x57 x58 x59 x60 x61 x62 x63 x64 x65 x66 x67 x68 x69 x70 x71 x72 x73 x74 x75 x76 x77 x78 x79 x80 x81 x82 x83 x84 x85 x86 x87 x88 x89 x90 x91 x92 x93 x94 x95 x96 x97 x98 x99 x100 x101 x102 x103 x104 x105 x106 x107 x108 x109 x110 x111 x112 x113 x114 x115 x116 x117 x118 x119 x120 x121 x122 x123 x124 x125 x126 x127 x128 x129 x130 x131 x132 x133 x134 x135 x136 x137 x138 x139 x140 x141 x142 x143 x144 x145 x146 x147 x148 x149 x150 x151 x152 x153 x154 x155 x156 x157 x158 x159 x160 x161 x162 x163 x164 x165 x166 x167 x168 x169 x170 x171 x172 x173 x174 x175 x176 x177 x178 x179 x180 x181 x182 x183 x184 x185 x186 x187 x188 x189 x190 x191 x192 x193 x194 x195 x196 x197 x198 x199 x200 x201 x202 x203 x204 x205 x206 x207 x208 x209 x210 x211 x212 x213 x214 x215 x216 x217 x218 x219 x220 x221 x222 x223 x224 x225 x226 x227 x228 x229 x230 x231 x232 x233 x234 x235 x236 x237 x238 x239 x240 x241 x242 x243 x244 x245 x246 x247 x248 x249 x250 x251 x252 x253 x254 x255 x256 x257 x258 x259 x260 x261 x262 x263 x264 x265 x266 x267 x268 x269 x270 x271 x272 x273 x274 x275 x276 x277 x278 x279 x280 x281 x282 x283 x284 x285 x286 x287 x288 x289 x290 x291 x292 x293 x294 x295 x296 x297 x298 x299 x300 x301 x302 x303 x304 x305 x306 x307 x308 : Value}
    (w W0 W : World) (a : Option Addr) (c : Nat) (X : List Lf.Sl) (qb rb nb : Nat) (aq : Option Addr) (cq : Nat) (Q : List Lf.Sl) (ar : Option Addr) (cr : Nat) (D : List Lf.Sl) (L : LS w W0 a c X qb rb nb aq cq Q ar cr D) (bb g cp : Nat) (Z : List Lf.Sl) (hW : WantAt W0 W bb g cp Z) (t : ByteArray) (ht : t.size ≤ 140737488355328) (F P2 P3 : Nat) (hP : (Q, P2, P3) = if Lf.check Z = 0 then (Z, F, 0) else ([], 0, 8)) (hbig : Lf.check Z = 0 → t.size ≤ 512) (hZ : Z.length ≤ 41) (hT : Txs Z) (k : Int) (G1 : ByteArray) (G2 D2 : Nat) (hc : Lf.check X = 0) (hG : (G1, G2) = Lf.get X k) (hD : (D, D2) = Lf.drop X k) (hDl : D.length ≤ 40) :
    Code.wp Try.prog (fromR 22 (Try.f7.body.getD .skip)) (bodyPost Try.prog Try.f7 fun e w' => e = .returned (.bool true) ∧ Below w.heap.size w w') ⟨List.toArray (x0 :: (.string t) :: (.int .i64 k) :: x3 :: (.pointer (some ⟨w.heap.size, 0, none⟩)) :: x5 :: x6 :: x7 :: x8 :: x9 :: x10 :: x11 :: (.pointer (some ⟨qb, 0, none⟩)) :: (.int .i64 (P2 : Int)) :: (.int .i64 (P3 : Int)) :: (.string G1) :: (.int .i64 (G2 : Int)) :: (.pointer (some ⟨rb, 0, none⟩)) :: (.int .i64 (D2 : Int)) :: x19 :: x20 :: x21 :: x22 :: x23 :: x24 :: (.pointer (some ⟨nb, 0, none⟩)) :: (.int .i64 (F : Int)) :: (.pointer (some ⟨bb, 0, none⟩)) :: x28 :: x29 :: x30 :: x31 :: x32 :: x33 :: x34 :: x35 :: x36 :: x37 :: x38 :: x39 :: x40 :: x41 :: x42 :: x43 :: x44 :: x45 :: x46 :: x47 :: x48 :: x49 :: x50 :: x51 :: x52 :: x53 :: x54 :: x55 :: x56 :: x57 :: x58 :: x59 :: x60 :: x61 :: x62 :: x63 :: x64 :: x65 :: x66 :: x67 :: x68 :: x69 :: x70 :: x71 :: x72 :: x73 :: x74 :: x75 :: x76 :: x77 :: x78 :: x79 :: x80 :: x81 :: x82 :: x83 :: x84 :: x85 :: x86 :: x87 :: x88 :: x89 :: x90 :: x91 :: x92 :: x93 :: x94 :: x95 :: x96 :: x97 :: x98 :: x99 :: x100 :: x101 :: x102 :: x103 :: x104 :: x105 :: x106 :: x107 :: x108 :: x109 :: x110 :: x111 :: x112 :: x113 :: x114 :: x115 :: x116 :: x117 :: x118 :: x119 :: x120 :: x121 :: x122 :: x123 :: x124 :: x125 :: x126 :: x127 :: x128 :: x129 :: x130 :: x131 :: x132 :: x133 :: x134 :: x135 :: x136 :: x137 :: x138 :: x139 :: x140 :: x141 :: x142 :: x143 :: x144 :: x145 :: x146 :: x147 :: x148 :: x149 :: x150 :: x151 :: x152 :: x153 :: x154 :: x155 :: x156 :: x157 :: x158 :: x159 :: x160 :: x161 :: x162 :: x163 :: x164 :: x165 :: x166 :: x167 :: x168 :: x169 :: x170 :: x171 :: x172 :: x173 :: x174 :: x175 :: x176 :: x177 :: x178 :: x179 :: x180 :: x181 :: x182 :: x183 :: x184 :: x185 :: x186 :: x187 :: x188 :: x189 :: x190 :: x191 :: x192 :: x193 :: x194 :: x195 :: x196 :: x197 :: x198 :: x199 :: x200 :: x201 :: x202 :: x203 :: x204 :: x205 :: x206 :: x207 :: x208 :: x209 :: x210 :: x211 :: x212 :: x213 :: x214 :: x215 :: x216 :: x217 :: x218 :: x219 :: x220 :: x221 :: x222 :: x223 :: x224 :: x225 :: x226 :: x227 :: x228 :: x229 :: x230 :: x231 :: x232 :: x233 :: x234 :: x235 :: x236 :: x237 :: x238 :: x239 :: x240 :: x241 :: x242 :: x243 :: x244 :: x245 :: x246 :: x247 :: x248 :: x249 :: x250 :: x251 :: x252 :: x253 :: x254 :: x255 :: x256 :: x257 :: x258 :: x259 :: x260 :: x261 :: x262 :: x263 :: x264 :: x265 :: x266 :: x267 :: x268 :: x269 :: x270 :: x271 :: x272 :: x273 :: x274 :: x275 :: x276 :: x277 :: x278 :: x279 :: x280 :: x281 :: x282 :: x283 :: x284 :: x285 :: x286 :: x287 :: x288 :: x289 :: x290 :: x291 :: x292 :: x293 :: x294 :: x295 :: x296 :: x297 :: x298 :: x299 :: x300 :: x301 :: x302 :: x303 :: x304 :: x305 :: x306 :: x307 :: x308 :: []), []⟩ W := by
  conv => arg 2; whnf
  have HL := hid L
  have HW := hid hW
  have HP := hid hP
  have HG := hid hG
  have HD := hid hD
  have ht' : (t.size : Int) ≤ 140737488355328 := by omega
  have KEr := hid (refErr_any W (some ⟨g, 0, none⟩) cp Z (hW.own.inp (by omega) hT))
  have bz := hW.box.cell
  have hcl := Lf.check_le Z
  clear L hW hP hG hD
  go_upto_region 22 with fail
  go_cut [197] from 190 to 197 (fun c wx => c = .bool (decide (Lf.check Z ≠ 0)) ∧ Hid (Below W.heap.size W wx))
  case first =>
    by_cases h4 : 4096 < t.size
    · have h4' : (4096 : Int) < (t.size : Int) := by omega
      have hz : Value.bool true = .bool (decide (Lf.check Z ≠ 0)) := by
        congr 1
        symm
        rw [decide_eq_true_iff]
        intro e
        have := hbig e
        omega
      have HZ' := hid hz
      clear hz KEr
      go_wp2_with fail
      go_meet
      case rel => exact ⟨HZ'.out, hid (Below.refl _ _)⟩
    · have h4' : ¬ (4096 : Int) < (t.size : Int) := by omega
      by_cases hz : Lf.check Z = 0
      · have HZ' : Hid (Value.bool false = .bool (decide (Lf.check Z ≠ 0))) := by show _ = _; simp [hz]
        rw [hz] at KEr
        clear hz
        go_wp2_with fail
        refine KEr.out.mono ?_
        rintro r w15 ⟨rfl, hb⟩
        have B15 := hid hb
        clear hb KEr
        go_wp2_with fail
        go_meet
        case rel => exact ⟨HZ'.out, B15⟩
      · have HZ' : Hid (Value.bool true = .bool (decide (Lf.check Z ≠ 0))) := by show _ = _; simp [hz]
        generalize Lf.check Z = CZ at *
        have hne : ((CZ : Int) != 0) = true := by simp; omega
        clear hz
        go_wp2_with fail
        refine KEr.out.mono ?_
        rintro r w15 ⟨rfl, hb⟩
        have B15 := hid hb
        clear hb KEr
        go_wp2_with fail
        go_meet
        case rel => exact ⟨HZ'.out, B15⟩
  case rest =>
    obtain ⟨rfl, hB⟩ := hcut
    clear KEr bz
    have HWc := hid (HW.out.keep hB.out)
    have LWc := hid (HL.out.keep HWc.out.below)
    have q4 := LWc.out.q.cell
    have n4 := LWc.out.n.cell
    have b4 := HWc.out.box.cell
    by_cases hz : Lf.check Z = 0
    · have hP := HP.out
      rw [if_pos hz] at hP
      simp only [Prod.mk.injEq] at hP
      obtain ⟨rfl, rfl, rfl⟩ := hP
      have hz' : decide (Lf.check Q ≠ 0) = false := by simp [hz]
      rw [hz']
      have KS := hid (same_any wc aq (some ⟨g, 0, none⟩) cq cp Q Q LWc.out.qa (own_pg2 HWc.out.own) (by omega) (by omega))
      clear hz hz' HP hbig
      go_upto_if 197 with fail
      go_cut [] from 190 to 222 (fun wx => Hid (Below wc.heap.size wc wx))
      case first =>
        go_wp2_with fail
        refine KS.out.mono ?_
        rintro r w16 ⟨q', rfl, hq', hb⟩
        obtain rfl : q' = true := by simpa using hq'
        have B16 := hid hb
        clear hb hq' KS
        go_wp2_with fail
        go_meet
        case rel => exact B16
      case rest =>
        have HWx := hid (HWc.out.keep hcut.out)
        apply_assumption
        exact tail27 w W0 _ a c X qb rb nb aq cq Q ar cr D HL.out HWx.out.below bb _ HWx.out.box HWx.out.new k G1 G2 D2 hc HG.out HD.out hDl
    · have hP := HP.out
      rw [if_neg hz] at hP
      simp only [Prod.mk.injEq] at hP
      obtain ⟨rfl, rfl, rfl⟩ := hP
      have hz' : decide (Lf.check Z ≠ 0) = true := by simp [hz]
      rw [hz']
      have KS := hid (same_any wc aq none cq 0 [] [] LWc.out.qa (PgAt.nil _ _) (by simp) (by simp))
      clear hz hz' HP hbig
      go_upto_if 197 with fail
      go_cut [] from 190 to 222 (fun wx => Hid (Below wc.heap.size wc wx))
      case first =>
        go_wp2_with fail
        refine KS.out.mono ?_
        rintro r w16 ⟨q', rfl, hq', hb⟩
        obtain rfl : q' = true := by simpa using hq'
        have B16 := hid hb
        clear hb hq' KS
        go_wp2_with fail
        go_meet
        case rel => exact B16
      case rest =>
        have HWx := hid (HWc.out.keep hcut.out)
        apply_assumption
        exact tail27 w W0 _ a c X qb rb nb aq cq [] ar cr D HL.out HWx.out.below bb _ HWx.out.box HWx.out.new k G1 G2 D2 hc HG.out HD.out hDl

