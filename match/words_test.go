package match_test

// findWords are lines, and the words that llvm-mc 14 makes of them. (It has a c in the place of # ahead of CRn and CRm; prfm it has with its units alone, prfum being what it says of another offset.)
func findWords() map[string]uint32 {
	return map[string]uint32{
		"add x0, x1, x2":                    0x8b020020,
		"add x0, x1, x2, lsl #0":            0x8b020020,
		"add w0, w1, w2, asr #31":           0x0b827c20,
		"adds x0, x1, x2, lsr #63":          0xab42fc20,
		"add sp, x1, x2":                    0x8b22603f,
		"add x0, sp, x2, lsl #4":            0x8b2273e0,
		"add wsp, wsp, w2":                  0x0b2243ff,
		"sub x0, x1, w2, uxtb":              0xcb220020,
		"sub x0, x1, w2, sxtw #4":           0xcb22d020,
		"subs x0, sp, x2, uxtx":             0xeb2263e0,
		"add x0, x1, #0":                    0x91000020,
		"add x0, x1, #8192":                 0x91400820,
		"add x0, sp, #4095":                 0x913fffe0,
		"add w0, w1, #2, lsl #12":           0x11400820,
		"adds x0, x1, #16773120":            0xb17ffc20,
		"sub sp, sp, #16":                   0xd10043ff,
		"subs w0, wsp, #1":                  0x710007e0,
		"cmp x1, #5":                        0xf100143f,
		"cmp x1, #4096":                     0xf140043f,
		"cmp w1, w2, lsl #3":                0x6b020c3f,
		"cmp sp, x2":                        0xeb2263ff,
		"cmp sp, x2, lsl #2":                0xeb226bff,
		"cmp x1, w2, sxth #1":               0xeb22a43f,
		"cmn wsp, #5":                       0x310017ff,
		"cmn x1, x2":                        0xab02003f,
		"neg x0, x1":                        0xcb0103e0,
		"neg w0, w1, lsr #5":                0x4b4117e0,
		"negs x0, x1, asr #63":              0xeb81ffe0,
		"adc x0, x1, x2":                    0x9a020020,
		"adcs w0, w1, w2":                   0x3a020020,
		"sbc x0, x1, xzr":                   0xda1f0020,
		"sbcs w0, w1, w2":                   0x7a020020,
		"ngc x0, x1":                        0xda0103e0,
		"ngcs w0, w1":                       0x7a0103e0,
		"ccmn x0, x1, #15, eq":              0xba41000f,
		"ccmp w0, #31, #3, nv":              0x7a5ff803,
		"ccmp x0, x1, #3, hs":               0xfa412003,
		"and x0, x1, x2":                    0x8a020020,
		"and w0, w1, #-2":                   0x121f7820,
		"and wsp, w1, #255":                 0x12001c3f,
		"bic x0, x1, x2, ror #63":           0x8ae2fc20,
		"orr x0, x1, #6148914691236517205":  0xb200f020,
		"orr sp, x1, #1":                    0xb240003f,
		"orn w0, w1, w2":                    0x2a220020,
		"eor x0, x1, x2, lsl #1":            0xca020420,
		"eor w0, w1, #-256":                 0x52185c20,
		"eon x0, x1, x2":                    0xca220020,
		"ands w0, w1, #-2147483648":         0x72010020,
		"ands x0, x1, x2":                   0xea020020,
		"bics xzr, x1, x2":                  0xea22003f,
		"tst x0, #1":                        0xf240001f,
		"tst w0, #-3":                       0x721e781f,
		"tst x0, x1, lsl #5":                0xea01141f,
		"mvn x0, x1":                        0xaa2103e0,
		"mvn w0, w1, ror #31":               0x2ae17fe0,
		"mov x0, x1":                        0xaa0103e0,
		"mov w0, wzr":                       0x2a1f03e0,
		"mov x0, sp":                        0x910003e0,
		"mov sp, x1":                        0x9100003f,
		"mov wsp, wsp":                      0x110003ff,
		"mov x0, #0":                        0xd2800000,
		"mov w0, #-1":                       0x12800000,
		"mov w0, #-65537":                   0x12a00020,
		"mov w0, #-65536":                   0x52bfffe0,
		"mov x0, #65536":                    0xd2a00020,
		"mov x0, #-1":                       0x92800000,
		"mov x0, #-65537":                   0x92a00020,
		"mov x0, #6148914691236517205":      0xb200f3e0,
		"mov w0, #1431655765":               0x3200f3e0,
		"mov w0, #-1431655766":              0x3201f3e0,
		"mov sp, #6148914691236517205":      0xb200f3ff,
		"mov xzr, #5":                       0xd28000bf,
		"movz x0, #5, lsl #48":              0xd2e000a0,
		"movz w0, #0, lsl #16":              0x52a00000,
		"movz x0, #5, lsl #0":               0xd28000a0,
		"movn w0, #65535":                   0x129fffe0,
		"movn x0, #1, lsl #32":              0x92c00020,
		"movk x0, #65535, lsl #16":          0xf2bfffe0,
		"movk w0, #1":                       0x72800020,
		"sbfm x0, x1, #3, #2":               0x93430820,
		"bfm w0, w1, #31, #0":               0x331f0020,
		"ubfm x0, x1, #0, #63":              0xd340fc20,
		"sbfiz x0, x1, #1, #2":              0x937f0420,
		"bfi w0, w1, #31, #1":               0x33010020,
		"ubfiz x0, x1, #62, #1":             0xd3420020,
		"bfc x0, #8, #4":                    0xb3780fe0,
		"bfxil w0, w1, #0, #32":             0x33007c20,
		"sbfx x0, x1, #1, #62":              0x9341f820,
		"ubfx x0, x1, #0, #8":               0xd3401c20,
		"sxtb x0, w1":                       0x93401c20,
		"sxtb w0, w1":                       0x13001c20,
		"sxth x0, w1":                       0x93403c20,
		"sxtw x0, w1":                       0x93407c20,
		"uxtb w0, w1":                       0x53001c20,
		"uxth w0, w1":                       0x53003c20,
		"lsl w0, w1, #8":                    0x53185c20,
		"lsl x0, x1, #63":                   0xd3410020,
		"lsl x0, x1, x2":                    0x9ac22020,
		"lsr x0, x1, #0":                    0xd340fc20,
		"lsr w0, w1, #31":                   0x531f7c20,
		"lsr w0, w1, w2":                    0x1ac22420,
		"asr x0, x1, #63":                   0x937ffc20,
		"asr w0, w1, #0":                    0x13007c20,
		"asr x0, x1, x2":                    0x9ac22820,
		"ror x0, x1, #63":                   0x93c1fc20,
		"ror w0, w1, w2":                    0x1ac22c20,
		"lslv x0, x1, x2":                   0x9ac22020,
		"lsrv w0, w1, w2":                   0x1ac22420,
		"asrv x0, x1, x2":                   0x9ac22820,
		"rorv x0, x1, x2":                   0x9ac22c20,
		"extr x0, x1, x2, #63":              0x93c2fc20,
		"extr w0, w1, w1, #3":               0x13810c20,
		"adr x0, #5":                        0x30000020,
		"adr xzr, #-1048576":                0x1080001f,
		"adrp x0, #-4294967296":             0x90800000,
		"adrp x0, #4096":                    0xb0000000,
		"b #8":                              0x14000002,
		"b #-134217728":                     0x16000000,
		"bl #134217724":                     0x95ffffff,
		"b.hs #8":                           0x54000042,
		"b.lo #-4":                          0x54ffffe3,
		"b.eq #1048572":                     0x547fffe0,
		"b.al #8":                           0x5400004e,
		"b.nv #8":                           0x5400004f,
		"cbz w1, #-4":                       0x34ffffe1,
		"cbnz xzr, #8":                      0xb500005f,
		"tbz w1, #3, #-4":                   0x361fffe1,
		"tbz w1, #31, #32764":               0x36fbffe1,
		"tbnz x1, #63, #-32768":             0xb7fc0001,
		"br x1":                             0xd61f0020,
		"blr xzr":                           0xd63f03e0,
		"ret":                               0xd65f03c0,
		"ret x30":                           0xd65f03c0,
		"ret x1":                            0xd65f0020,
		"eret":                              0xd69f03e0,
		"svc #65535":                        0xd41fffe1,
		"hvc #1":                            0xd4000022,
		"smc #0":                            0xd4000003,
		"brk #1":                            0xd4200020,
		"hlt #2":                            0xd4400040,
		"dcps1":                             0xd4a00001,
		"dcps2 #7":                          0xd4a000e2,
		"dcps3 #0":                          0xd4a00003,
		"hint #0":                           0xd503201f,
		"hint #127":                         0xd5032fff,
		"nop":                               0xd503201f,
		"yield":                             0xd503203f,
		"wfe":                               0xd503205f,
		"wfi":                               0xd503207f,
		"sev":                               0xd503209f,
		"sevl":                              0xd50320bf,
		"dgh":                               0xd50320df,
		"esb":                               0xd503221f,
		"csdb":                              0xd503229f,
		"clrex":                             0xd5033f5f,
		"clrex #15":                         0xd5033f5f,
		"clrex #3":                          0xd503335f,
		"isb":                               0xd5033fdf,
		"isb #0":                            0xd50330df,
		"dsb sy":                            0xd5033f9f,
		"dsb #0":                            0xd503309f,
		"dmb ishld":                         0xd50339bf,
		"dmb #4":                            0xd50334bf,
		"mrs x0, nzcv":                      0xd53b4200,
		"mrs xzr, s2_7_c15_c15_7":           0xd537ffff,
		"msr tpidr_el0, x3":                 0xd51bd043,
		"msr spsel, x3":                     0xd5184203,
		"msr spsel, #1":                     0xd50041bf,
		"msr daifset, #2":                   0xd50342df,
		"msr daifclr, #15":                  0xd5034fff,
		"msr pan, #1":                       0xd500419f,
		"msr uao, #1":                       0xd500417f,
		"msr dit, #1":                       0xd503415f,
		"csel x0, x1, x2, al":               0x9a82e020,
		"csinc w0, w1, w2, lo":              0x1a823420,
		"csinv x0, x1, x2, le":              0xda82d020,
		"csneg w0, wzr, wzr, nv":            0x5a9ff7e0,
		"cset x3, eq":                       0x9a9f17e3,
		"csetm w3, hs":                      0x5a9f33e3,
		"cinc x0, x1, lt":                   0x9a81a420,
		"cinv w0, w1, vs":                   0x5a817020,
		"cneg x0, x1, hi":                   0xda819420,
		"rbit x0, x1":                       0xdac00020,
		"rev16 w0, w1":                      0x5ac00420,
		"rev32 x0, x1":                      0xdac00820,
		"rev x0, x1":                        0xdac00c20,
		"rev w0, w1":                        0x5ac00820,
		"clz x0, x1":                        0xdac01020,
		"cls w0, w1":                        0x5ac01420,
		"udiv x0, x1, x2":                   0x9ac20820,
		"sdiv w0, w1, w2":                   0x1ac20c20,
		"crc32b w0, w1, w2":                 0x1ac24020,
		"crc32h w0, w1, w2":                 0x1ac24420,
		"crc32w w0, w1, w2":                 0x1ac24820,
		"crc32x w0, w1, x2":                 0x9ac24c20,
		"crc32cb w0, w1, w2":                0x1ac25020,
		"crc32ch w0, w1, w2":                0x1ac25420,
		"crc32cw w0, w1, w2":                0x1ac25820,
		"crc32cx w0, w1, x2":                0x9ac25c20,
		"madd x0, x1, x2, x3":               0x9b020c20,
		"msub w0, w1, w2, wzr":              0x1b02fc20,
		"mul w0, w1, w2":                    0x1b027c20,
		"mneg x0, x1, x2":                   0x9b02fc20,
		"smaddl x0, w1, w2, x3":             0x9b220c20,
		"smsubl x0, w1, w2, xzr":            0x9b22fc20,
		"smull x0, w1, w2":                  0x9b227c20,
		"smnegl x0, w1, w2":                 0x9b22fc20,
		"umaddl x0, w1, w2, x3":             0x9ba20c20,
		"umsubl x0, w1, w2, x3":             0x9ba28c20,
		"umull x0, w1, w2":                  0x9ba27c20,
		"umnegl x0, w1, w2":                 0x9ba2fc20,
		"smulh x0, x1, x2":                  0x9b427c20,
		"umulh x0, x1, x2":                  0x9bc27c20,
		"ldr x0, #8":                        0x58000040,
		"ldr w0, #-1048576":                 0x18800000,
		"ldrsw x0, #1048572":                0x987fffe0,
		"prfm pldl1strm, #8":                0xd8000041,
		"prfm #31, #8":                      0xd800005f,
		"stp x29, x30, [sp, #-16]!":         0xa9bf7bfd,
		"stp w0, w1, [x2]":                  0x29000440,
		"ldp x0, x1, [x2], #504":            0xa8df8440,
		"ldp w0, w1, [x2, #-256]":           0x29600440,
		"ldpsw x0, x1, [x2, #4]":            0x69408440,
		"ldpsw x0, x1, [x2], #-4":           0x68ff8440,
		"ldpsw x0, x1, [x2, #-256]!":        0x69e00440,
		"stnp w0, w1, [sp, #252]":           0x281f87e0,
		"ldnp x0, x1, [x2, #-512]":          0xa8600440,
		"strb w0, [x1, #4095]":              0x393ffc20,
		"strh w0, [x1, #8190]":              0x793ffc20,
		"str w0, [x1, #16380]":              0xb93ffc20,
		"str x0, [sp, #32760]":              0xf93fffe0,
		"ldrb w0, [x1]":                     0x39400020,
		"ldrh w0, [x1, #2]":                 0x79400420,
		"ldr w0, [x1, #4]":                  0xb9400420,
		"ldr x0, [x1, #16]":                 0xf9400820,
		"ldrsb x0, [x1, #1]":                0x39800420,
		"ldrsb w0, [x1, #1]":                0x39c00420,
		"ldrsh x0, [x1, #2]":                0x79800420,
		"ldrsh w0, [x1, #2]":                0x79c00420,
		"ldrsw x0, [x1, #4]":                0xb9800420,
		"prfm pldl1keep, [x1, #8]":          0xf9800420,
		"prfm #7, [x1, #16]":                0xf9800827,
		"ldr x0, [x1, #-8]":                 0xf85f8020,
		"ldr x0, [x1, #255]":                0xf84ff020,
		"ldr w0, [x1, #2]":                  0xb8402020,
		"str x0, [x1, #-256]":               0xf8100020,
		"strb w0, [x1, #-1]":                0x381ff020,
		"strh w0, [x1, #1]":                 0x78001020,
		"ldrb w0, [sp, #-1]":                0x385ff3e0,
		"ldrh w0, [x1, #255]":               0x784ff020,
		"ldrsb x0, [x1, #-1]":               0x389ff020,
		"ldrsh w0, [x1, #3]":                0x78c03020,
		"ldrsw x0, [x1, #-4]":               0xb89fc020,
		"prfm pldl1keep, [x1, #4]":          0xf8804020,
		"prfm #7, [x1, #-1]":                0xf89ff027,
		"ldur x0, [x1, #8]":                 0xf8408020,
		"stur w0, [x1]":                     0xb8000020,
		"sturb w0, [x1, #1]":                0x38001020,
		"ldursw x0, [x1, #2]":               0xb8802020,
		"prfum pstl3strm, [x1, #-256]":      0xf8900035,
		"sttr x0, [x1, #-8]":                0xf81f8820,
		"ldtrb w0, [x1, #255]":              0x384ff820,
		"ldtrsh x0, [x1]":                   0x78800820,
		"ldtrsw x0, [x1, #1]":               0xb8801820,
		"ldr w0, [x1], #4":                  0xb8404420,
		"str x0, [sp, #-16]!":               0xf81f0fe0,
		"ldrb wzr, [x1], #-256":             0x3850043f,
		"strh w0, [x1, #255]!":              0x780ffc20,
		"ldrsb x0, [x1], #1":                0x38801420,
		"ldrsw x0, [x1, #0]!":               0xb8800c20,
		"ldr x0, [x1, x2]":                  0xf8626820,
		"ldr x0, [x1, x2, lsl #3]":          0xf8627820,
		"ldr x0, [x1, w2, sxtw #3]":         0xf862d820,
		"ldrb w0, [x1, x2, lsl #0]":         0x38627820,
		"ldrb w0, [x1, w2, uxtw]":           0x38624820,
		"strh w0, [x1, w2, uxtw #1]":        0x78225820,
		"ldrsw x0, [x1, x2, sxtx #2]":       0xb8a2f820,
		"prfm plil2keep, [x1, w2, uxtw #3]": 0xf8a2582a,
		"stxr w0, x1, [x2]":                 0xc8007c41,
		"stlxrb w0, w1, [sp]":               0x0800ffe1,
		"ldxr w0, [x1]":                     0x885f7c20,
		"ldaxrh w0, [x1]":                   0x485ffc20,
		"stxp w0, x1, x2, [x3]":             0xc8200861,
		"stlxp w0, w1, w2, [x3]":            0x88208861,
		"ldxp x0, x1, [x2]":                 0xc87f0440,
		"ldaxp w0, w1, [x2]":                0x887f8440,
		"stlr x0, [x1]":                     0xc89ffc20,
		"stlrb w0, [x1]":                    0x089ffc20,
		"ldar w0, [x1]":                     0x88dffc20,
		"ldarh w0, [sp]":                    0x48dfffe0,
		"sys #3, #7, #14, #2":               0xd50b7e5f,
		"sys #3, #7, #14, #2, xzr":          0xd50b7e5f,
		"sys #7, #15, #15, #7, x9":          0xd50fffe9,
		"sysl xzr, #0, #1, #2, #3":          0xd528127f,
	}
}

// noLines are lines that are no instruction.
const noLines = `
nothing x0
hs
B #8
add x0, x1
add x0
add
add x0, x1, x2, x3
add w0, x1, w2
add x0, x1, w2
add x0, w1, x2
add x0, xzr, #1
add x0, x1, #-1
add x0, x1, #4097
add x0, x1, #16777216
add x0, x1, #1, lsl #11
add x0, x1, #1, lsl #24
add x0, x1, x2, ror #1
add x0, x1, sp
add x0, sp, x2, lsl #5
add x0, sp, x2, lsr #1
add x0, sp, w2
add x0, x1, x2, uxtw
add x0, x1, w2, uxtw #5
adds sp, x1, #1
adds xzr, sp, x2
adds sp, x1, x2
cmp x1
cmp #1, x1
cmp x1, x2, x3
cmp xzr, #1
neg x0, x1, x2
neg sp, x1
neg x0, x1, uxtx
adc x0, x1, #1
adc x0, x1, x2, lsl #1
ngc x0, #1
ccmp x0, #32, #1, eq
ccmp x0, #-1, #1, eq
ccmp x0, x1, #16, eq
ccmp x0, x1, #1
ccmp x0, w1, #1, eq
ccmp x0, #1, x1, eq
ccmp x0, #1, #1, #0
and x0, x1, #0
and x0, x1, #-1
and w0, w1, #-1
and w0, w1, #4294967295
and x0, x1, #5
and w0, w1, #-4294967295
and x0, w1, #-2
and x0, xzr, sp
ands sp, x1, #1
bic x0, x1, #1
bics x0, x1, #1
tst sp, #1
tst x0, x1, x2
mvn x0, #1
mov x0
mov x0, x1, x2
mov x0, w1
mov sp, xzr
mov sp, #0
mov sp, #1
mov sp, #65535
mov sp, #4294967296
mov x0, #305419896
mov w0, #305419896
mov w0, #4294967296
mov w0, #-2147483649
mov x0, x1, lsl #1
mov x0, #1, lsl #16
movz x0, #65536
movz x0, #-1
movz x0, #1, lsl #8
movz w0, #1, lsl #32
movz x0, #1, lsl #17
movz sp, #1
movz x0, x1
movn x0
ubfm x0, x1, #64, #1
ubfm w0, w1, #1, #32
ubfm x0, x1, #-1, #1
ubfm x0, x1, #1
bfi x0, x1, #0, #1
bfi x0, x1, #1, #64
bfi x0, xzr, #1, #1
bfi x0, x1, #1, #0
bfc x0, x1, #1, #1
sbfx x0, x1, #1, #64
sbfx x0, x1, #1, #0
ubfx x0, x1, #63, #2
ubfx x0, x1, #64, #1
bfxil x0, x1, #-1, #2
ubfx x0, x1, #0, #64
ubfiz x0, x1, #63, #1
sbfx x0, x1, #1, #63
lsl x0, x1, #0
lsl w0, w1, #32
lsl x0, x1, #-1
lsr w0, w1, #32
lsr x0, x1, #64
asr x0, x1, #-1
ror w0, w1, #32
ror x0, x1, x2, #1
ror x0, w1, #1
lsl x0, x1, x2, lsl #1
lslv x0, x1, #1
extr x0, x1, x2
sxtb x0, x1
sxtb x0, w1, #1
sxtw w0, w1
sxtw x0, x1
uxtb x0, w1
uxtb x0, x1
uxth x0, w1
uxtw x0, w1
adr w0, #8
adr x0, #1048576
adr sp, #8
adrp x0, #1
adrp x0, #4294967296
b
b x0
b #1
b #2
b #134217728
b #8, lsl #1
bl #-134217732
b.xx #8
b. #8
b.hs
b.eq x0
b.eq #1048576
cbz sp, #8
cbz x0
cbz x0, #1048576
tbz x0, #3, #8
tbz w0, #32, #8
tbz w0, #-1, #8
tbz x0, #64, #8
tbz w0, #1, #32768
tbz w0, #1
br
br w0
br sp
blr
ret w30
ret x1, x2
eret x0
svc
svc #65536
svc #-1
svc x0
brk
dcps1 #1, #2
dcps4
hint
hint #128
hint #-1
nop #0
nop x0
clrex #16
clrex x0
clrex sy
isb sy
isb #16
dsb
dsb #15
dsb #16
dmb #1
dmb x0
mrs w0, nzcv
mrs x0, #1
mrs nzcv, x0
mrs x0
msr nzcv, w0
msr nzcv, #1
msr daifset, x0
msr daifset, #16
msr daifset
msr #1, #1
msr x0, nzcv
sys #8, #0, #0, #0
sys #0, #16, #0, #0
sys #0, #0, #16, #0
sys #0, #0, #0, #8
sys #-1, #0, #0, #0
sys #0, #0, #0
sys #0, #0, #0, #0, w0
sys #0, #0, #0, x0
sys #1, #-16, #0, #0
sysl #0, #0, #0, #0, x0
sysl x0, #0, #0, #0
csel x0, x1, x2
csel x0, x1, w2, eq
csel x0, x1, x2, #0
cset x0, al
cset x0, nv
cset x0, x1, eq
csetm x0, #1
cinc x0, xzr, eq
cinc x0, x1, al
cinc x0, x1, x2, eq
cinv x0, xzr, eq
rev32 w0, w1
rev64 x0, x1
rbit x0, w1
clz x0, x1, x2
udiv x0, x1, w2
udiv x0, x1
crc32b x0, w1, w2
crc32b w0, w1, x2
crc32x w0, w1, w2
crc32x x0, x1, x2
madd x0, x1, x2
madd x0, x1, x2, w3
mul x0, x1, x2, x3
smaddl x0, x1, x2, x3
smaddl w0, w1, w2, w3
smull x0, x1, x2
smull w0, w1, w2
smulh x0, x1, x2, x3
smulh w0, w1, w2
umulh x0, w1, w2
ldr x0, #2
ldr sp, #8
ldr x0, #1048576
ldrsw w0, #8
ldrb w0, #8
str x0, #8
prfm x0, #8
prfm #0, #8
prfm #32, #8
ldr x0, [x1, #-257]
ldr x0, [x1, #257]
ldr x0, [x1, #32768]
ldr w0, [x1, #16384]
ldr w0, [x1, #3000]!
ldr x0, [x1, #256]!
ldr x0, [x1], #-257
ldr x0, [x0, #8]!
ldr x0, [x0], #8
str x1, [x1], #8
ldr sp, [x1]
ldr x0
ldr x0, [x1], x2
ldr x0, x1
strb x0, [x1]
ldrb x0, [x1]
ldrh x0, [x1]
ldrsw w0, [x1]
strsb w0, [x1]
ldrsx x0, [x1]
prfm x0, [x1]
prfm #0, [x1]
prfm pldl1keep, [x1, #8]!
prfm pldl1keep, [x1], #8
ldur x0, [x1, #256]
ldur x0, [x1, #-257]
ldur x0, [x1, #8]!
ldur x0, [x1, x2]
ldtr x0, [x1], #8
prftm pldl1keep, [x1]
prfur pldl1keep, [x1]
ldtr x0
ldr x0, [x1, x2, lsl #0]
ldr x0, [x1, x2, lsl #1]
ldr x0, [x1, x2, lsl #2]
ldr w0, [x1, x2, lsl #3]
ldrb w0, [x1, x2, lsl #1]
ldr x0, [x1, w2, uxtw #1]
stp x0, x1, [x2, #4]
stp x0, x1, [x2, #512]
stp x0, x1, [x2, #-520]
stp w0, w1, [x2, #256]
stp x0, w1, [x2]
stp x0, x1, [x0, #8]!
stp x0, x1, [x1], #8
ldp x0, x0, [x1]
ldp x0, x1, [x2, x3]
ldp x0, [x2]
ldpsw w0, w1, [x2]
ldpsw x0, x1, [x2, #2]
stpsw x0, x1, [x2]
stnp x0, x1, [x2, #8]!
stnp x0, x1, [x2], #8
ldnpsw x0, x1, [x2]
stxr w0, x1, [x2, #8]
stxr x0, x1, [x2]
stxr x1, [x2]
stxr w1, x1, [x2]
stxr w2, x1, [x2]
stxrb w0, x1, [x2]
stxpb w0, w1, w2, [x3]
ldxr x0, x1, [x2]
ldxp x0, x0, [x1]
ldxp x0, x1, x2
stlr w0, x1, [x2]
ldar x0, [x1], #0
ldarx x0, [x1]
lr x0, [x1]
ldr
`
